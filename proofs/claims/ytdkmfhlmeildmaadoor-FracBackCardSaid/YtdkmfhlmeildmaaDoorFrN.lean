/-
  The reference of package frac: number reads the decimal digits of a string from a place on. The world is as it was.
-/
import Derived.Test.YtdkmfhlmeildmaaDoorFrMem
import Derived.Lib.Hide
namespace Go.Proofs.YtdkmfhlmeildmaaDoor
open Go.RowKit

/-- Reading digits: the number so far, the bytes that are left. -/
def numF : Nat → List UInt8 → Nat × List UInt8
  | n, [] => (n, [])
  | n, c :: r => if 48 ≤ c.toNat ∧ c.toNat ≤ 57 ∧ n ≤ 1000000000000000 then numF (n * 10 + (c.toNat - 48)) r else (n, c :: r)
theorem numF_suf : ∀ (n : Nat) (l : List UInt8), ∃ m, m ≤ l.length ∧ (numF n l).2 = l.drop m
  | n, [] => ⟨0, Nat.le_refl _, rfl⟩
  | n, c :: r => by
    unfold numF
    split
    · obtain ⟨m, h1, h2⟩ := numF_suf (n * 10 + (c.toNat - 48)) r
      exact ⟨m + 1, by rw [List.length_cons]; omega, h2⟩
    · exact ⟨0, Nat.zero_le _, rfl⟩
theorem numF_le : ∀ (n : Nat) (l : List UInt8), n ≤ 10000000000000009 → (numF n l).1 ≤ 10000000000000009
  | n, [], h => h
  | n, c :: r, h => by
    unfold numF
    split
    · rename_i g
      exact numF_le _ r (by omega)
    · exact h
/-- The place behind what has been read. -/
def numE (l : List UInt8) (k : Nat) : Nat := l.length - (numF 0 (l.drop k)).2.length
theorem numE_drop (l : List UInt8) (k : Nat) (hk : k ≤ l.length) : l.drop (numE l k) = (numF 0 (l.drop k)).2 ∧ numE l k ≤ l.length := by
  obtain ⟨m, h1, h2⟩ := numF_suf 0 (l.drop k)
  rw [List.length_drop] at h1
  have e : numE l k = k + m := by
    unfold numE
    rw [h2, List.length_drop, List.length_drop]
    omega
  rw [e, h2, List.drop_drop]
  exact ⟨rfl, by omega⟩
theorem num_stop {n i : Nat} {l : List UInt8} {k : Nat} (hi : i ≤ l.length) (h : numF n (l.drop i) = numF 0 (l.drop k)) (hs : (numF n (l.drop i)) = (n, l.drop i)) : n = (numF 0 (l.drop k)).1 ∧ i = numE l k := by
  rw [hs] at h
  unfold numE
  rw [← h]
  refine ⟨rfl, ?_⟩
  show i = l.length - (l.drop i).length
  rw [List.length_drop]; omega

/-- Two ints. -/
def RetII (w : World) (a b : Int) (e : Ending) (w' : World) : Prop := e = .returned (.tuple #[.int .i64 a, .int .i64 b]) ∧ w' = w
theorem ret_ii {a b c d : Int} (h1 : a = c) (h2 : b = d) : Ending.returned (.tuple #[.int .i64 a, .int .i64 b]) = .returned (.tuple #[.int .i64 c, .int .i64 d]) := by rw [h1, h2]
theorem sbyte (s : ByteArray) (k : Nat) (h : k < s.size) : s.data.toList.drop k = s[k] :: s.data.toList.drop (k + 1) := by
  rw [List.drop_eq_getElem_cons (by simpa using h)]
  rfl

set_option maxHeartbeats 1600000 in
theorem rnum_any (s : ByteArray) (hs : s.size ≤ maxLen) (k : Nat) (hk : k ≤ s.size) (w : World) :
    Calls Tryd.prog 52 #[.string s, .int .i64 k] w (RetII w (numF 0 (s.data.toList.drop k)).1 (numE s.data.toList k)) := by
  unfold maxLen at hs
  have HLN := Lib.hid (show s.data.toList.length = s.size from Array.length_toList)
  go_enter Tryd.func52, Tryd.ntmps52
  go_wp2
  go_loop [1, 6] (fun iv nv => ∃ i n : Nat, iv = .int .i64 i ∧ i ≤ s.size ∧ nv = .int .i64 n ∧ n ≤ 10000000000000009 ∧ Hid (numF n (s.data.toList.drop i) = numF 0 (s.data.toList.drop k))) (fun iv _ => s.size - (RowKit.intOf iv).toNat)
  case atStart => exact ⟨k, 0, rfl, hk, rfl, by decide, rfl⟩
  case round =>
    obtain ⟨i, n, rfl, hi, rfl, hn, HN⟩ := hrel
    by_cases hlt : i < s.size
    · have hb := sbyte s i hlt
      have hstop := fun (h : ¬ (48 ≤ s[i].toNat ∧ s[i].toNat ≤ 57 ∧ n ≤ 1000000000000000)) => num_stop (by rw [HLN.out]; exact hi) HN.out (by rw [hb]; unfold numF; rw [if_neg h])
      have hgo := fun (h : 48 ≤ s[i].toNat ∧ s[i].toNat ≤ 57 ∧ n ≤ 1000000000000000) => show numF (n * 10 + (s[i].toNat - 48)) (s.data.toList.drop (i + 1)) = numF 0 (s.data.toList.drop k) by
        rw [← HN.out, hb]
        conv => rhs; unfold numF
        rw [if_pos h]
      clear hb
      rcases (show (s[i].toNat : Int) < 48 ∨ 57 < (s[i].toNat : Int) ∨ (48 ≤ (s[i].toNat : Int) ∧ (s[i].toNat : Int) ≤ 57) by omega) with g | g | ⟨g1, g2⟩
      · have HE := Lib.hid (hstop (by omega))
        clear hstop hgo
        go_wp2
        go_ret2
        exact ⟨ret_ii (congrArg _ HE.out.1) (congrArg _ HE.out.2), rfl⟩
      · have HE := Lib.hid (hstop (by omega))
        have g' : 48 ≤ (s[i].toNat : Int) := by omega
        clear hstop hgo
        go_wp2
        go_ret2
        exact ⟨ret_ii (congrArg _ HE.out.1) (congrArg _ HE.out.2), rfl⟩
      · by_cases hm : n ≤ 1000000000000000
        · have HG := Lib.hid (hgo (by omega))
          clear hstop hgo
          go_wp2
          go_round
          case rel => exact ⟨i + 1, n * 10 + (s[i].toNat - 48), by go_num, by omega, (congrArg (Value.int .i64) (by omega)), by omega, HG.out⟩
          case measure => simp [RowKit.intOf]; omega
        · have HE := Lib.hid (hstop (by omega))
          have hm' : 1000000000000000 < n := by omega
          clear hstop hgo hm
          go_wp2
          go_ret2
          exact ⟨ret_ii (congrArg _ HE.out.1) (congrArg _ HE.out.2), rfl⟩
    · have HE := Lib.hid (num_stop (n := n) (i := i) (k := k) (by rw [HLN.out]; exact hi) HN.out (by rw [List.drop_of_length_le (by rw [HLN.out]; omega)]; rfl))
      have hge : s.size ≤ i := by omega
      clear hlt
      go_wp2
      go_ret2
      exact ⟨ret_ii (congrArg _ HE.out.1) (congrArg _ HE.out.2), rfl⟩
end Go.Proofs.YtdkmfhlmeildmaaDoor
