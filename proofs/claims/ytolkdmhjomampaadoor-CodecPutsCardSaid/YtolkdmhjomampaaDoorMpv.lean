/-
  PvS; PvB; PvR: texts of one kind in one file; each part says what it holds.
-/
import Derived.Test.YtolkdmhjomampaaDoorMch
import Derived.Test.YtolkdmhjomampaaDoorCdD

/-! The statements' own measure of a value (few elements, short strings): small answers it, for every value in memory and every depth up to 21. Nothing that was there turns. -/
namespace Go.Proofs.YtolkdmhjomampaaDoor
open Go.RowKit

/-- Each of the values passes, and their own elements number at most 300 together. -/
def smL (p : Vl → Bool) : List Vl → Nat → Bool
  | [], _ => true
  | x :: r, n => decide (n + x.ll.length ≤ 300) && (p x && smL p r (n + x.ll.length))
/-- Short strings, few elements, and so in each element, so many levels down at most. -/
def smV : Nat → Vl → Bool
  | 0, _ => false
  | m + 1, x => decide (x.ss.length ≤ 300) && (decide (x.ll.length ≤ 100) && smL (smV m) x.ll 0)
theorem smL_drop (p : Vl → Bool) (l : List Vl) (i : Nat) (h : i < l.length) (n : Nat) : smL p (l.drop i) n = (decide (n + l[i].ll.length ≤ 300) && (p l[i] && smL p (l.drop (i + 1)) (n + l[i].ll.length))) := by
  rw [List.drop_eq_getElem_cons h]; rfl
theorem smV_big : ∀ (m : Nat) {x : Vl}, 100 < x.ll.length → smV m x = false
  | 0, _, _ => rfl
  | m + 1, x, h => by
    show (decide (x.ss.length ≤ 300) && (decide (x.ll.length ≤ 100) && smL (smV m) x.ll 0)) = false
    rw [decide_eq_false (show ¬ x.ll.length ≤ 100 by omega), Bool.false_and, Bool.and_false]
/-- What small answers where so many levels may follow. -/
def SP (m : Nat) : Prop := ∀ (x : Vl) (ao : Option Addr) (cap : Nat) (w : World), Vin x → SlV w ao x.ll cap → Calls Tryd.prog 8 #[vlv x ao cap, .int .i64 (21 - (m : Int))] w (RetB w (smV m x))
set_option maxHeartbeats 3200000 in
theorem small_0 : SP 0 := fun x ao cap w hi hs => by
  obtain ⟨p0, f0⟩ := bx1 w x ao cap
  have hl := hi.s
  unfold maxLen at hl
  have hz : (bs x.ss).size = x.ss.length := by simp [bs, ByteArray.size]
  have hll := hs.le
  have hlm := hs.max
  unfold maxLen at hlm
  show Calls _ _ _ _ (RetB w false)
  clear hs hi
  rw [show (21 - ((0 : Nat) : Int)) = 21 by rfl]
  unfold vlv at *
  by_cases h3 : 300 < x.ss.length
  · go_enter Tryd.func8, Tryd.ntmps8
    go_wp2
    go_ret
    exact ⟨rfl, f0⟩
  · by_cases h4 : 100 < x.ll.length
    · go_enter Tryd.func8, Tryd.ntmps8
      go_wp2
      go_ret
      exact ⟨rfl, f0⟩
    · go_enter Tryd.func8, Tryd.ntmps8
      go_wp2
      go_ret
      exact ⟨rfl, f0⟩
set_option maxHeartbeats 6400000 in
set_option maxRecDepth 100000 in
theorem small_s (m : Nat) (hm : m < 21) (hw : SP m) : SP (m + 1) := fun x ao cap w hi hs => by
  obtain ⟨p0, f0⟩ := bx1 w x ao cap
  have hl := hi.s
  unfold maxLen at hl
  have hz : (bs x.ss).size = x.ss.length := by simp [bs, ByteArray.size]
  have hll := hs.le
  have hlm := hs.max
  unfold maxLen at hlm
  have HS := Lib.hid (hs.on f0)
  have HW := Lib.hid hw
  have e := Lib.hid (show smV (m + 1) x = (decide (x.ss.length ≤ 300) && (decide (x.ll.length ≤ 100) && smL (smV m) x.ll 0)) from rfl)
  clear hs hi hw
  generalize smV (m + 1) x = R at *
  obtain ⟨D, hD, hD0, hD1⟩ : ∃ D : Int, 21 - ((m + 1 : Nat) : Int) = D ∧ 0 ≤ D ∧ D ≤ 20 := ⟨_, rfl, by omega, by omega⟩
  have hD2 : D + 1 = 21 - (m : Int) := by omega
  rw [hD]
  have HD := Lib.hid hD2
  clear hD hD2
  unfold vlv
  obtain ⟨w0, hw0⟩ : ∃ w0, w0 = w.alloc (.cells #[.int .i64 x.kd, .int .i64 x.nn, .int .i64 x.dd, .string (bs x.ss), .slice ao x.ll.length cap] 24) := ⟨_, rfl⟩
  rw [← hw0] at p0 f0 HS
  have HW0 := Lib.hid hw0
  clear hw0
  by_cases h3 : 300 < x.ss.length
  · have E := Lib.hid (show R = false by rw [e.out, decide_eq_false (by omega)]; rfl)
    go_enter Tryd.func8, Tryd.ntmps8
    go_wp2
    go_ret
    exact ⟨ret_bool E.out.symm, HW0.out ▸ f0⟩
  · by_cases h4 : 100 < x.ll.length
    · have E := Lib.hid (show R = false by rw [e.out, decide_eq_false (show ¬ x.ll.length ≤ 100 by omega), Bool.false_and, Bool.and_false])
      go_enter Tryd.func8, Tryd.ntmps8
      go_wp2
      go_ret
      exact ⟨ret_bool E.out.symm, HW0.out ▸ f0⟩
    · have E := Lib.hid (show R = smL (smV m) x.ll 0 by rw [e.out, decide_eq_true (by omega), decide_eq_true (by omega), Bool.true_and, Bool.true_and])
      clear e
      go_enter Tryd.func8, Tryd.ntmps8
      go_wp2
      go_loopw [5, 6] (fun nv iv wr => ∃ (n i : Nat), nv = .int .i64 n ∧ iv = .int .i64 i ∧ i ≤ x.ll.length ∧ n ≤ 300 ∧ Hid (R = smL (smV m) (x.ll.drop i) n) ∧ Fur w0 wr) (fun _ iv _ => x.ll.length - (RowKit.intOf iv).toNat)
      case atStart => exact ⟨0, 0, rfl, rfl, Nat.zero_le _, by omega, E.out, by rw [HW0.out]; exact Fur.refl _⟩
      case round =>
        obtain ⟨n, i, rfl, rfl, hi, hn, HN, hf⟩ := hrel
        have c4 := (p0.on hf).c4
        by_cases hlt : i < x.ll.length
        · obtain ⟨b, o, rfl, hv⟩ := (HS.out.on hf).get hlt
          have hA := smL_drop (smV m) x.ll i hlt n
          obtain ⟨hy, d0, d1, d2, d3, ao', cap', d4, hs2⟩ := VC_of hv
          have HC := Lib.hid (HW.out x.ll[i] ao' cap' wr hy hs2)
          have hy1 := hs2.le
          have hy2 := hs2.max
          unfold maxLen at hy2
          have HA := Lib.hid (HN.out.trans hA)
          unfold vlv at HC
          rw [← HD.out] at HC
          clear hv hs2 hy hA HN
          generalize x.ll[i] = y at *
          by_cases hq : n + y.ll.length ≤ 300
          · have HB := Lib.hid (HA.out.trans (by rw [decide_eq_true hq, Bool.true_and]))
            clear HA
            generalize smV m y = q at *
            go_wp2_with fail
            go_at_call 8
            refine (HC.out).mono ?_; rintro e1 w1 ⟨rfl, f1⟩
            cases q
            · have HE := Lib.hid (show R = false by rw [HB.out]; rfl)
              go_wp2
              go_ret
              exact ⟨ret_bool HE.out.symm, f0.trans (hf.trans f1)⟩
            · have HE := Lib.hid (show R = smL (smV m) (x.ll.drop (i + 1)) (n + y.ll.length) by rw [HB.out, Bool.true_and])
              go_wp2
              go_roundw
              case rel => exact ⟨n + y.ll.length, i + 1, by go_num, by go_num, by omega, hq, HE.out, hf.trans f1⟩
              case measure => simp [RowKit.intOf]; omega
          · have HE := Lib.hid (show R = false by rw [HA.out, decide_eq_false hq, Bool.false_and])
            clear HA
            by_cases hbig : n + y.ll.length ≤ 9000000000000000000
            · clear HC
              go_wp2
              go_ret
              exact ⟨ret_bool HE.out.symm, f0.trans hf⟩
            · rw [smV_big m (by omega)] at HC
              clear hbig hq
              by_cases ht : 300 < wrap64 ((n : Int) + (y.ll.length : Int))
              · clear HC
                go_wp2
                go_ret
                exact ⟨ret_bool HE.out.symm, f0.trans hf⟩
              · go_wp2_with fail
                go_at_call 8
                refine (HC.out).mono ?_; rintro e1 w1 ⟨rfl, f1⟩
                go_wp2
                go_ret
                exact ⟨ret_bool HE.out.symm, f0.trans (hf.trans f1)⟩
        · have HE := Lib.hid (show R = true by rw [HN.out, List.drop_of_length_le (by omega)]; rfl)
          go_wp2
          go_ret
          exact ⟨ret_bool HE.out.symm, f0.trans hf⟩
theorem small_any : ∀ m, m ≤ 21 → SP m
  | 0, _ => small_0
  | m + 1, h => small_s m (by omega) (small_any m (by omega))
end Go.Proofs.YtolkdmhjomampaaDoor

/-! Plain mathematics: a valid value within the statements' measure (few elements, short strings) is written in less than 100,000,000,000,000 bytes. No program is walked here. -/
namespace Go.Proofs.YtolkdmhjomampaaDoor
open Go.Lib

/-- How many elements the values have together. -/
def cntL : List Vl → Nat
  | [] => 0
  | x :: r => x.ll.length + cntL r
theorem smL_cnt {p : Vl → Bool} : ∀ {l : List Vl} {n : Nat}, smL p l n = true → n ≤ 300 → n + cntL l ≤ 300
  | [], n, _, h => by unfold cntL; omega
  | x :: r, n, h, _ => by
    unfold smL at h
    rw [Bool.and_eq_true, Bool.and_eq_true, decide_eq_true_eq] at h
    have := smL_cnt h.2.2 h.1
    unfold cntL
    omega
theorem smL_all {p : Vl → Bool} : ∀ {l : List Vl} {n : Nat}, smL p l n = true → ∀ x ∈ l, p x = true
  | [], _, _, x, hx => by cases hx
  | y :: r, n, h, x, hx => by
    unfold smL at h
    rw [Bool.and_eq_true, Bool.and_eq_true] at h
    rcases List.mem_cons.1 hx with e | e
    · rw [e]; exact h.2.1
    · exact smL_all h.2.2 x e
theorem putXs_le {M : Nat} : ∀ (l : List Vl), (∀ x ∈ l, (putX x).length ≤ M) → (putXs l).length ≤ l.length * M
  | [], _ => by rw [putXs_nil]; simp
  | x :: r, h => by
    have h1 := h x (by simp)
    have h2 := putXs_le r (fun y hy => h y (by simp [hy]))
    rw [putXs_cons, List.length_append, List.length_cons, Nat.succ_mul]
    omega
theorem putXs_le2 {M : Nat} : ∀ (l : List Vl), (∀ x ∈ l, (putX x).length ≤ 311 + x.ll.length * M) → (putXs l).length ≤ l.length * 311 + cntL l * M
  | [], _ => by rw [putXs_nil]; simp
  | x :: r, h => by
    have h1 := h x (by simp)
    have h2 := putXs_le2 r (fun y hy => h y (by simp [hy]))
    rw [putXs_cons, List.length_append, List.length_cons]
    unfold cntL
    rw [Nat.add_mul x.ll.length]
    omega
theorem sm_s {m : Nat} {x : Vl} (h : smV m x = true) : ∃ j, m = j + 1 ∧ x.ss.length ≤ 300 ∧ smL (smV j) x.ll 0 = true := by
  cases m with
  | zero => cases h
  | succ j =>
    unfold smV at h
    rw [Bool.and_eq_true, Bool.and_eq_true, decide_eq_true_eq] at h
    exact ⟨j, rfl, h.1, h.2.2⟩
/-- A value that has no elements of its own to write, and one that has. -/
theorem putX_own {m : Nat} (hm : m ≤ 8) {v : Vl} (h : okV m v = true) (hs : v.ss.length ≤ 300) : (putX v).length ≤ 311 + (putXs v.ll).length := by
  obtain ⟨k, n, d, s, l⟩ := v
  have hX := ok_mono _ _ 8 hm h
  have hs' : s.length ≤ 300 := hs
  have hu : ∀ x : Int, I64 x → (uvarint (zigzag x)).length ≤ 10 := fun x hx => uvarint_length64 (zigzag_lt hx.1 hx.2)
  have hL : l.length ≤ 64 := by
    by_cases h7 : k = 7
    · unfold okV at h
      rw [if_pos h7] at h
      simp only [Bool.and_eq_true, decide_eq_true_eq] at h
      omega
    · by_cases h8 : k = 8
      · unfold okV at h
        rw [if_neg h7, if_pos h8] at h
        simp only [Bool.and_eq_true, decide_eq_true_eq] at h
        omega
      · rcases kinds hX with ⟨_, _, _, _, rfl⟩ | ⟨_, _, _, _, rfl⟩ | ⟨_, _, _, _, rfl⟩ | ⟨_, _, _, _, rfl⟩ | ⟨_, _, _, rfl⟩ | ⟨_, _, _, _, rfl⟩ | ⟨_, _, _, _, rfl⟩ | ⟨e, _⟩ | ⟨e, _⟩
        all_goals first | (simp; done) | omega
  have hl := uvarint_length64 (x := l.length) (by omega)
  have hsl := uvarint_length64 (x := s.length) (by omega)
  rw [putX_mk]
  show _ ≤ 311 + (putXs l).length
  unfold tailX
  rcases kinds hX with ⟨rfl, rfl, rfl, rfl, rfl⟩ | ⟨rfl, hn, rfl, rfl, rfl⟩ | ⟨rfl, hn, rfl, rfl, rfl⟩ | ⟨rfl, hF, hd, rfl, rfl⟩ | ⟨rfl, rfl, rfl, rfl⟩ | ⟨rfl, hn, rfl, rfl, rfl⟩ | ⟨rfl, hn, rfl, rfl, rfl⟩ | ⟨rfl, rfl, rfl, rfl, _⟩ | ⟨rfl, rfl, rfl, rfl, _⟩
  · simp
    omega
  · have := hu n ⟨by omega, by omega⟩
    simp
    omega
  · have := hu n ⟨by omega, by omega⟩
    simp
    omega
  · have o := okF_t hF
    have o1 := o.n1; have o2 := o.n2; have o3 := o.d1; have o4 := o.d2
    have := hu n ⟨by omega, by omega⟩
    have := hu d ⟨by omega, by omega⟩
    simp
    omega
  · simp
    omega
  · have := hu n ⟨by omega, by omega⟩
    simp
    omega
  · have := hu n ⟨by omega, by omega⟩
    simp
    omega
  · simp
    omega
  · simp
    omega
/-- What a value that is not a list, and may hold no list, needs at most. -/
theorem put_flat {m j : Nat} (hm : m ≤ 8) {v : Vl} (h : okV m v = true) (hs : smV j v = true) (hk : v.kd ≠ 8) : (putX v).length ≤ 8086 := by
  obtain ⟨j, rfl, h1, h2⟩ := sm_s hs
  have ho := putX_own hm h h1
  have hX := ok_mono _ _ 8 hm h
  obtain ⟨k, n, d, s, l⟩ := v
  have hk' : k ≠ 8 := hk
  have ho' : (putX (.mk k n d s l)).length ≤ 311 + (putXs l).length := ho
  by_cases h7 : k = 7
  · unfold okV at h
    rw [if_pos h7] at h
    simp only [Bool.and_eq_true, decide_eq_true_eq] at h
    obtain ⟨⟨_, h25⟩, hp⟩ := h
    have hx : (putXs l).length ≤ l.length * 311 := putXs_le l (fun x hx => by
      obtain ⟨i, rfl, g1, _⟩ := sm_s (smL_all h2 x hx)
      obtain ⟨q1, q2⟩ := okVp_mem hp x hx
      have h3 := putX_own (m := 0) (by decide) q1 g1
      have q3 := ok_mono _ _ 8 (by decide) q1
      have e : x.ll = [] := by
        obtain ⟨k', n', d', s', l'⟩ := x
        have q2' : k' = 5 ∨ k' = 6 := q2
        rcases kinds q3 with ⟨_, _, _, _, e⟩ | ⟨_, _, _, _, e⟩ | ⟨_, _, _, _, e⟩ | ⟨_, _, _, _, e⟩ | ⟨_, _, _, e⟩ | ⟨_, _, _, _, e⟩ | ⟨_, _, _, _, e⟩ | ⟨e, _⟩ | ⟨e, _⟩
        all_goals first | exact e | omega
      rw [e, putXs_nil] at h3
      exact h3)
    omega
  · have e : l = [] := by
      rcases kinds hX with ⟨_, _, _, _, e⟩ | ⟨_, _, _, _, e⟩ | ⟨_, _, _, _, e⟩ | ⟨_, _, _, _, e⟩ | ⟨_, _, _, e⟩ | ⟨_, _, _, _, e⟩ | ⟨_, _, _, _, e⟩ | ⟨e, _⟩ | ⟨e, _⟩
      all_goals first | exact e | omega
    rw [e, putXs_nil] at ho'
    rw [e]
    have : ([] : List UInt8).length = 0 := rfl
    omega
/-- Two levels of lists more. -/
theorem put_step {m M : Nat} (hm : m + 2 ≤ 8) (hM : 8086 ≤ M) (ih : ∀ (v : Vl) (j : Nat), okV m v = true → smV j v = true → (putX v).length ≤ M) (v : Vl) (j : Nat) (h : okV (m + 2) v = true) (hs : smV j v = true) :
    (putX v).length ≤ 20215 + 300 * M := by
  by_cases hk : v.kd = 8
  · obtain ⟨j, rfl, h1, h2⟩ := sm_s hs
    have ho := putX_own hm h h1
    have hc := smL_cnt h2 (by decide)
    obtain ⟨k, n, d, s, l⟩ := v
    have hk' : k = 8 := hk
    have ho' : (putX (.mk k n d s l)).length ≤ 311 + (putXs l).length := ho
    have hc' : 0 + cntL l ≤ 300 := hc
    have h2' : smL (smV j) l 0 = true := h2
    unfold okV at h
    rw [if_neg (by omega), if_pos hk'] at h
    simp only [Bool.and_eq_true, decide_eq_true_eq] at h
    obtain ⟨⟨_, h64⟩, hl⟩ := h
    have hx := putXs_le2 (M := M) l (fun x hx => by
      obtain ⟨i, rfl, g1, g2⟩ := sm_s (smL_all h2' x hx)
      have q := okVs_mem hl x hx
      have q' : okV (m + 1) x = true := q
      have h3 := putX_own (by omega) q' g1
      have h4 : (putXs x.ll).length ≤ x.ll.length * M := putXs_le x.ll (fun y hy => by
        have gy := smL_all g2 y hy
        obtain ⟨k', n', d', s', l'⟩ := x
        have hy' : y ∈ l' := hy
        by_cases e7 : k' = 7
        · unfold okV at q'
          rw [if_pos e7] at q'
          simp only [Bool.and_eq_true, decide_eq_true_eq] at q'
          obtain ⟨r1, r2⟩ := okVp_mem q'.2 y hy'
          exact Nat.le_trans (put_flat (m := 0) (by decide) r1 gy (by omega)) hM
        · by_cases e8 : k' = 8
          · unfold okV at q'
            rw [if_neg e7, if_pos e8] at q'
            simp only [Bool.and_eq_true, decide_eq_true_eq, Nat.add_sub_cancel] at q'
            exact ih y i (okVs_mem q'.2 y hy') gy
          · have hX := ok_mono _ _ 8 (by omega) q'
            exfalso
            have e : l' = [] := by
              rcases kinds hX with ⟨_, _, _, _, e⟩ | ⟨_, _, _, _, e⟩ | ⟨_, _, _, _, e⟩ | ⟨_, _, _, _, e⟩ | ⟨_, _, _, e⟩ | ⟨_, _, _, _, e⟩ | ⟨_, _, _, _, e⟩ | ⟨e, _⟩ | ⟨e, _⟩
              all_goals first | exact e | omega
            rw [e] at hy'
            cases hy')
      omega)
    have h5 : cntL l * M ≤ 300 * M := Nat.mul_le_mul_right M (by omega)
    omega
  · have := put_flat hm h hs hk
    omega
theorem put_0 (v : Vl) (j : Nat) (h : okV 0 v = true) (hs : smV j v = true) : (putX v).length ≤ 8086 := by
  refine put_flat (m := 0) (by decide) h hs (fun hk => ?_)
  obtain ⟨k, n, d, s, l⟩ := v
  have hk' : k = 8 := hk
  unfold okV at h
  rw [if_neg (by omega), if_pos hk'] at h
  simp at h
/-- A valid value within the measure. -/
theorem put_small {v : Vl} {j : Nat} (hs : smV j v = true) (h : okX v = true) : (putX v).length ≤ 100000000000000 := by
  have h2 := put_step (m := 0) (M := 8086) (by decide) (by decide) put_0
  have h4 := put_step (m := 2) (by decide) (by decide) h2
  have h6 := put_step (m := 4) (by decide) (by decide) h4
  have h8 := put_step (m := 6) (by decide) (by decide) h6 v j h hs
  omega
end Go.Proofs.YtolkdmhjomampaaDoor

/-! The statements' own around: three slices of bytes, one behind the other, in memory of their own. Nothing that was there turns. For slices of at most 140,000,000,000,000 bytes together. -/
namespace Go.Proofs.YtolkdmhjomampaaDoor
open Go.RowKit

/-- append of any slice of bytes onto what the call owns. -/
theorem wpList_appC (w : World) {ops : Array Oper} {rest : List Oper} {o : Oper} {a : Act} {Q : Exit → Act → World → Prop} (hgd : o.guard = none) (s x : Operand)
    (ho : o.op = .call { callee := .builtin .append, args := #[s, x], argTypes := #[27, 27] }) (base : Nat) (v : Value) (n : Nat) (xs : List Value) (hs : a.eval s = v) (hown : w.ownsRow base 5 1 v n xs)
    (ao : Option Addr) (l : List UInt8) (cap : Nat) (hx : a.eval x = .slice ao l.length cap) (hI : IsB w ao l cap) (hsz : n + l.length ≤ 140000000000000) (hbase : base ≤ w.heap.size)
    (h : ∀ v2 w2, w2.ownsRow base 5 1 v2 (n + l.length) (xs ++ Lib.byteCells l) → (∀ W, Fuw W w → W.heap.size ≤ base → Fuw W w2) → wpList Tryd.prog ops Q rest (a.put o.dst v2) w2) : wpList Tryd.prog ops Q (o :: rest) a w := by
  obtain ⟨i0, hi, hz0, hz1, hz2⟩ := info_parts infoB
  cases ao with
  | none =>
    have hl : l = [] := List.length_eq_zero_iff.1 (by have := hI.nil rfl; have := hI.le; omega)
    have hc := hI.nil rfl
    subst hl hc
    exact wpList_append_own_none hgd s x 27 ho base 5 i0 1 Tryd.underlying27 hi v n xs hs hown hx (h v w (by simpa [Lib.byteCells] using hown) (fun W hW _ => hW))
  | some ad =>
    refine wpList_append_own w hgd s x 27 ho base 5 i0 (.int .u8 0) 1 1 Tryd.underlying27 hi hz0 hz1 hz2 rfl (by decide) v n xs hs hown ad l.length cap (Lib.byteCells l) hx (by rw [Lib.byteCells_length, Nat.mul_one]) (fun j u hu => ?_) (fun u hu => ?_) (by unfold maxLen; omega) (by omega) hbase ?_
    · have hjl : j < l.length := by
        rcases Nat.lt_or_ge j l.length with k | k
        · exact k
        · rw [List.getElem?_eq_none (by rw [Lib.byteCells_length]; exact k)] at hu; cases hu
      obtain ⟨b, off, e, hb, hc⟩ := hI.at_ (by omega)
      obtain rfl := Option.some.inj e
      rw [byteCells_get hjl] at hu
      rw [Go.WideShapes.add_plain, hc j hjl]
      exact hu
    · unfold Lib.byteCells at hu
      obtain ⟨c, -, rfl⟩ := List.mem_map.1 hu
      rfl
    · intro v2 w2 ho2 hg2 _
      exact h v2 w2 ho2 (fun W hW hB => Below.grown hW hg2 hW.size (fun k hk => Nat.le_trans hB (hown.lt k hk).1))
set_option maxHeartbeats 3200000 in
theorem around_any (a0 : Option Addr) (l0 : List UInt8) (c0 : Nat) (a1 : Option Addr) (l1 : List UInt8) (c1 : Nat) (a2 : Option Addr) (l2 : List UInt8) (c2 : Nat) (w : World) (h0 : IsB w a0 l0 c0) (h1 : IsB w a1 l1 c1) (h2 : IsB w a2 l2 c2) (hsz : l0.length + (l1.length + l2.length) ≤ 140000000000000) :
    Calls Tryd.prog 28 #[.slice a0 l0.length c0, .slice a1 l1.length c1, .slice a2 l2.length c2] w (RetY w (l0 ++ (l1 ++ l2))) := by
  have f0 : Fuw w (w.alloc (.cells #[] 5)) := (Fuw.refl w).alloc _
  have i0 := h0.on f0
  have H1 := Lib.hid h1
  have H2 := Lib.hid h2
  clear h0 h1 h2
  go_enter Tryd.func28, Tryd.ntmps28
  go_upto_region 2 with (at_builtin; refine wpList_appC _ rfl _ _ rfl w.heap.size _ _ _ rfl (own_empty w) _ l0 _ rfl i0 (by omega) (by simp) ?_; intro v5 w5 ho5 hf5)
  have f5 := hf5 w f0 (Nat.le_refl _)
  have i1 := H1.out.on f5
  go_upto_region 3 with (at_builtin; refine wpList_appC _ rfl _ _ rfl w.heap.size _ _ _ rfl ho5 _ l1 _ rfl i1 (by omega) f5.size ?_; intro v6 w6 ho6 hf6)
  have f6 := hf6 w f5 (Nat.le_refl _)
  have i2 := H2.out.on f6
  go_wp2_with (at_builtin; refine wpList_appC _ rfl _ _ rfl w.heap.size _ _ _ rfl ho6 _ l2 _ rfl i2 (by omega) f6.size ?_; intro v7 w7 ho7 hf7)
  have f7 := hf7 w f6 (Nat.le_refl _)
  have ho : w7.ownsRow w.heap.size 5 1 v7 (0 + l0.length + l1.length + l2.length) (Lib.byteCells (l0 ++ (l1 ++ l2))) := by
    rw [List.nil_append, ← Lib.byteCells_append, ← Lib.byteCells_append, List.append_assoc] at ho7
    exact ho7
  obtain ⟨ao, cap, rfl, -, hI⟩ := IsB.of_own ho
  go_wp2
  go_ret
  exact ⟨_, _, rfl, hI, f7⟩
end Go.Proofs.YtolkdmhjomampaaDoor
