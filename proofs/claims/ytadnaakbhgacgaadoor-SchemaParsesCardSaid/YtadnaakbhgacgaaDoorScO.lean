/-
  Package schema: the rule with a text (Parse). Condition: the library's variables read as laid (Good). Nothing that was there turns.
-/
import Derived.Test.YtadnaakbhgacgaaDoorScN
import Derived.Lib.AtoiAllCases
namespace Go.Proofs.YtadnaakbhgacgaaDoor
open Go.RowKit
open Go.Lib (itoa join)

theorem atoV_in (s : List UInt8) : I64 (atoV s) := by
  unfold atoV
  rcases h : Lib.atoiAll s with v | _ | _
  · exact Lib.atoiAll_bounds h
  · exact i0
  · exact Lib.atoiSat_bounds s
theorem kwN_in (s : List UInt8) : I64 (kwN s) := by
  unfold kwN I64
  split
  · decide
  · split
    · decide
    · split <;> decide
/-- Whether a text of kind k is s. -/
def hitR (k : Int) (s : List UInt8) : Option Rl := match readR k (atoV (numW k s)) s with
  | some r => if txtR r = s then some r else none
  | none => none
/-- The first of the last n kinds that has s as a text. -/
def parG (s : List UInt8) : Nat → Option Rl
  | 0 => none
  | n + 1 => match hitR (7 - n : Int) s with
    | some r => some r
    | none => parG s n
def parR (s : List UInt8) : Option Rl := parG s 7
theorem rd_kd {k n : Int} {s : List UInt8} {r : Rl} (h : readR k n s = some r) : r.kd = k := by
  unfold readR at h
  split at h
  · cases h; rfl
  · cases h
theorem rd_in {k : Int} {s : List UInt8} {r : Rl} (hk : isK k = true) (hs : s.length ≤ 140737488355328) (h : readR k (atoV (numW k s)) s = some r) : RIn r := by
  unfold readR at h
  split at h
  · cases h
    have l0 : (restR k s).length ≤ s.length := by unfold restR; rw [List.length_drop]; omega
    have l1 := cutA_len (restR k s)
    have l2 := cutB_len (restR k s)
    have l3 := cutA_len (cutB (restR k s))
    have l4 := cutB_len (cutB (restR k s))
    have l5 := cutA_len (cutB (cutB (restR k s)))
    have eo : ∀ x : List UInt8, (endO x).length ≤ x.length := fun x => by unfold endO; split <;> simp
    have e1 := eo (cutA (cutB (restR k s)))
    have e2 := eo (cutA (cutB (cutB (restR k s))))
    refine ⟨?_, ?_, ?_, ?_, ?_, ?_⟩
    · unfold isK at hk
      simp only [Bool.and_eq_true, decide_eq_true_eq] at hk
      unfold rulR I64
      exact ⟨by show _ ≤ k; omega, by show k ≤ _; omega⟩
    · show I64 (if kindK k = true then _ else if k = 7 then _ else 0)
      split
      · exact kwN_in _
      · split
        · exact atoV_in _
        · exact i0
    · show (cutA _).length ≤ maxLen
      unfold maxLen; omega
    · show (if keyK k = true then _ else ([] : List UInt8)).length ≤ maxLen
      unfold maxLen; split
      · omega
      · simp
    · show (if k = 6 then _ else ([] : List UInt8)).length ≤ maxLen
      unfold maxLen; split
      · omega
      · simp
    · show (if k = 6 then _ else ([] : List UInt8)).length ≤ maxLen
      unfold maxLen; split
      · omega
      · simp
  · cases h
theorem hit_txt {k : Int} {s : List UInt8} {r : Rl} (h : hitR k s = some r) : r.kd = k ∧ txtR r = s := by
  unfold hitR at h
  split at h
  · rename_i q hq
    split at h
    · rename_i ht; cases h; exact ⟨rd_kd hq, ht⟩
    · cases h
  · cases h
theorem parG_txt {s : List UInt8} {r : Rl} : ∀ n, parG s n = some r → txtR r = s
  | 0, h => by cases h
  | n + 1, h => by
    unfold parG at h
    split at h
    · rename_i q hq; cases h; exact (hit_txt hq).2
    · exact parG_txt n h
theorem par_txt {s : List UInt8} {r : Rl} (h : parR s = some r) : txtR r = s := parG_txt 7 h
theorem txt_ne {r : Rl} (h : chkR r = 0) : txtR r ≠ [] := by
  obtain ⟨y, hy⟩ := txt_hd h
  rw [hy]; simp
theorem txt_chk {r : Rl} (h : txtR r ≠ []) : chkR r = 0 := by
  unfold txtR at h
  split at h
  · assumption
  · exact absurd rfl h
theorem hit_self {r : Rl} (h : chkR r = 0) : hitR r.kd (txtR r) = some r := by
  obtain ⟨a1, a2⟩ := txt_read h
  have hn : r.kd = 7 → atoV (numW r.kd (txtR r)) = r.nn := fun e => by
    have c := (chk_0 h).2.2.1
    unfold numR at c
    rw [e] at c
    simp [kindK] at c
    unfold atoV
    rw [a1 e, atoi_itoa r.nn (by omega) (by omega)]
  unfold hitR
  rw [a2 _ hn]
  simp
theorem hit_other {r : Rl} (h : chkR r = 0) {k : Int} (hk : k ≠ r.kd) : hitR k (txtR r) = none := by
  cases e : hitR k (txtR r) with
  | none => rfl
  | some q =>
    exfalso
    obtain ⟨e1, e2⟩ := hit_txt e
    have hq : chkR q = 0 := txt_chk (by rw [e2]; exact txt_ne h)
    exact hk (by rw [← e1, txt_inj hq h e2])
theorem parG_self {r : Rl} (h : chkR r = 0) : ∀ n : Nat, (8 : Int) - n ≤ r.kd → r.kd ≤ 7 → parG (txtR r) n = some r
  | 0, h1, h2 => by omega
  | n + 1, h1, h2 => by
    unfold parG
    by_cases e : (7 - n : Int) = r.kd
    · rw [e, hit_self h]
    · rw [hit_other h e]
      exact parG_self h n (by omega) h2
/-- The text of a valid rule is parsed as the rule. -/
theorem par_self {r : Rl} (h : chkR r = 0) : parR (txtR r) = some r := by
  have hk := isK_cases (chk_0 h).1
  exact parG_self h 7 (by omega) (by omega)
def RetP (w : World) (o : Option Rl) (e : Ending) (w' : World) : Prop := (match o with | some r => e = .returned (.tuple #[rlv r, .int .i64 0]) | none => e = .returned (.tuple #[rlv nilR, .int .i64 2])) ∧ Fuw w w'
end Go.Proofs.YtadnaakbhgacgaaDoor
