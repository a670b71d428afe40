/-
  Package intset: Meet and Minus give the intersection and the difference of two slices as new slices, by a walk over one set that seeks in the other. For slices of at most 400,000 ints; nothing that was there turns.
-/
import Derived.Test.YtmmkcnohicfjeaaIsC
namespace Go.Proofs.Ytmmkcnohicfjeaa
open Go.RowKit

theorem seek_le (l : List Int) (m : Nat) (x : Int) (h : m ≤ l.length) : m ≤ seekN l m x ∧ seekN l m x ≤ l.length := by
  unfold seekN
  split
  · have h1 := List.findIdx_le_length (xs := l.drop m) (p := fun y => decide (x ≤ y))
    rw [List.length_drop] at h1
    omega
  · omega
theorem seek_lo (l : List Int) (m : Nat) (x : Int) (j : Nat) (h0 : m ≤ j) (h1 : j < seekN l m x) (hj : j < l.length) : l[j] < x := by
  unfold seekN at h1
  split at h1
  · have h2 : j - m < (l.drop m).findIdx (fun y => decide (x ≤ y)) := by omega
    have h3 := List.not_of_lt_findIdx h2
    simp only [List.getElem_drop] at h3
    have e : m + (j - m) = j := by omega
    simp only [e] at h3
    simp at h3
    exact h3
  · omega
theorem seek_hi (l : List Int) (m : Nat) (x : Int) (h : seekN l m x < l.length) : x ≤ l[seekN l m x] := by
  by_cases hm : m < l.length
  · have e : seekN l m x = m + (l.drop m).findIdx (fun y => decide (x ≤ y)) := by unfold seekN; rw [if_pos hm]
    have h2 : (l.drop m).findIdx (fun y => decide (x ≤ y)) < (l.drop m).length := by rw [List.length_drop]; omega
    have h3 := List.findIdx_getElem (w := h2)
    simp only [List.getElem_drop] at h3
    simp only [e]
    simpa using h3
  · unfold seekN at h
    rw [if_neg hm] at h
    omega
/-- Where the walk over a stands at place k, with its seat m in b: all before m is less than all from k on. -/
def CI (a b : List Int) (k m : Nat) : Prop := ∀ (i j : Nat) (hi : i < b.length) (hj : j < a.length), i < m → k ≤ j → b[i] < a[j]
theorem ci_step {a b : List Int} (k m : Nat) (sa : Str a) (sb : Str b) (hk : k < a.length) (h : CI a b k m) :
    CI a b (k + 1) (seekN b m (a.getD k 0)) ∧ (seekN b m (a.getD k 0) < b.length → (b.getD (seekN b m (a.getD k 0)) 0 == a.getD k 0) = b.contains (a.getD k 0)) ∧ (b.length ≤ seekN b m (a.getD k 0) → b.contains (a.getD k 0) = false) := by
  rw [getD_at hk]
  have hlo := seek_lo b m a[k]
  have hhi := seek_hi b m a[k]
  generalize seekN b m a[k] = n at hlo hhi
  have hall : ∀ (i : Nat) (hi : i < b.length), i < n → b[i] < a[k] := fun i hi hin => by
    rcases Nat.lt_or_ge i m with j | j
    · exact h i k hi hk j (Nat.le_refl _)
    · exact hlo i j hin hi
  refine ⟨fun i j hi hj hin hkj => ?_, fun hn => ?_, fun hn => ?_⟩
  · have h1 := hall i hi hin
    have h2 := List.pairwise_iff_getElem.1 sa k j hk hj (by omega)
    omega
  · rw [getD_at hn, Bool.eq_iff_iff, beq_iff_eq, List.contains_iff_mem]
    constructor
    · intro e
      rw [← e]
      exact List.getElem_mem hn
    · intro hmem
      obtain ⟨i, hi, e⟩ := List.getElem_of_mem hmem
      rcases Nat.lt_or_ge i n with j | j
      · have := hall i hi j; omega
      · rcases Nat.eq_or_lt_of_le j with q | q
        · subst q; exact e
        · have h1 := List.pairwise_iff_getElem.1 sb n i hn hi q
          have h2 := hhi hn
          omega
  · cases hb : b.contains a[k]
    · rfl
    · obtain ⟨i, hi, e⟩ := List.getElem_of_mem (List.contains_iff_mem.1 hb)
      have := hall i hi (by omega)
      omega
theorem ci_zero (a b : List Int) : CI a b 0 0 := fun _ _ _ _ h => absurd h (by omega)
theorem seek_at (ao : Option Addr) (zs : List Int) (cap m : Nat) (x : Int) (w : World) (hs : IsS w ao zs cap) :
    Calls Try.prog 24 #[.slice ao zs.length cap, .int .i64 (m : Int), .int .i64 x] w fun e w' => e = .returned (.int .i64 (seekN zs m x)) ∧ w = w' := by
  have h := seek_any ao zs cap m x w hs
  rwa [Int.toNat_natCast] at h

/-- The elements of a whose being in b is ins. -/
def chL (a b : List Int) (ins : Bool) : List Int := a.filter fun x => b.contains x == ins

set_option maxHeartbeats 3200000 in
theorem choose_any (ao bo : Option Addr) (a b : List Int) (ca cb : Nat) (ins : Bool) (w : World) (ha : IsS w ao a ca) (hb : IsS w bo b cb) (la : a.length ≤ 1000000) (lb : b.length ≤ 1000000) (sa : Str a) (sb : Str b) :
    Calls Try.prog 34 #[.slice ao a.length ca, .slice bo b.length cb, .bool ins] w (RetS w (chL a b ins)) := by
  obtain ⟨i0, hi, hz0, hz1, hz2⟩ := info_parts infoI
  have HS := Lib.hid (show ∀ o : List Int, o = a.filter (fun x => b.contains x == ins) → chL a b ins = o by rintro o rfl; rfl)
  generalize chL a b ins = u at HS
  have SA := Lib.hid sa
  have SB := Lib.hid sb
  clear sa sb
  go_enter Try.func34, Try.ntmps34
  go_wp2
  go_loopw [7, 8, 14] (fun v q i wr => ∃ (k m : Nat) (o : List Int), i = .int .i64 k ∧ k ≤ a.length ∧ o.length ≤ k ∧ q = .int .i64 m ∧ m ≤ b.length ∧ wr.ownsRow w.heap.size 3 1 v o.length (cs o) ∧ Fur w wr ∧ Hid (o = (a.take k).filter (fun x => b.contains x == ins)) ∧ Hid (CI a b k m)) (fun _ _ i _ => a.length - (RowKit.intOf i).toNat)
  case atStart => exact ⟨0, 0, [], rfl, Nat.zero_le _, Nat.zero_le _, rfl, Nat.zero_le _, World.ownsRow_nil _ _ _ _, Fur.refl _, rfl, ci_zero a b⟩
  case round =>
    obtain ⟨k, m, o, rfl, hk, ho, rfl, hm, hown, hf, HW, HI⟩ := hrel
    have hsz := hf.size
    by_cases hlt : k < a.length
    · obtain ⟨b1, off, rfl, _, hc⟩ := (ha.on hf).at_ (by omega)
      have c0 := hc k hlt
      clear hc
      have h1 := filt_yes k hlt HW.out
      have h2 := filt_no k hlt HW.out
      obtain ⟨h3, h4, h5⟩ := ci_step k m SA.out SB.out hlt HI.out
      have HK := fun z => Lib.hid (seek_at bo b cb m z wr (hb.on hf))
      obtain ⟨hn0, hn1⟩ := seek_le b m (a.getD k 0) hm
      obtain ⟨z, hz⟩ : ∃ z, a.getD k 0 = z := ⟨_, rfl⟩
      rw [hz] at c0 h1 h2 h3 h4 h5 hn0 hn1
      clear hz
      have HQ := HK z
      clear HK
      generalize seekN b m z = n at h3 h4 h5 HQ hn0 hn1
      generalize b.contains z = r at h1 h2 h4 h5
      have H3 := Lib.hid h3
      clear h3 hn0
      by_cases hn : n < b.length
      · have hr := h4 hn
        obtain ⟨b2, off2, rfl, _, hc2⟩ := (hb.on hf).at_ (by omega)
        have d0 := hc2 n hn
        clear hc2 h4 h5
        obtain ⟨y, hy⟩ : ∃ y, b.getD n 0 = y := ⟨_, rfl⟩
        rw [hy] at d0 hr
        clear hy
        have hni : (n : Int) < b.length := by omega
        have hn2 : (0 : Int) ≤ (n : Int) := by omega
        cases r
        · cases ins
          · have HN := Lib.hid (h1 rfl)
            clear h1 h2
            go_wp2_with fail
            go_at_call 24; refine HQ.out.mono ?_; rintro e w4 ⟨rfl, rfl⟩
            go_wp2_with (at_builtin; refine wpList_append_own _ rfl (.tmp 37) (.tmp 39) 22 rfl w.heap.size 3 i0 (.int .i64 0) 1 8 Try.underlying22 hi hz0 hz1 hz2 rfl (by decide) _ _ _ rfl (hown.alloc _) ⟨wr.heap.size, 0, none⟩ 1 1 [.int .i64 z] rfl rfl (at_one _ _) (by intro u hu; simp at hu; subst hu; rfl) (by unfold maxLen; omega) (by omega) (by simp; omega) ?_; intro v' w5 hown' hgrow _)
            have hf2 := fur_own hf hown hgrow
            obtain ⟨p, hp, hpl, hown2⟩ := own_snoc hown'
            rw [hp] at HN
            clear hown' hgrow hp
            go_wp2
            go_roundw
            case rel => exact ⟨k + 1, n, p, by go_num, by omega, by omega, rfl, by omega, hown2, hf2, HN.out, H3.out⟩
            case measure => simp [RowKit.intOf]; omega
          · have HN := Lib.hid (h2 rfl)
            clear h1 h2
            go_wp2_with fail
            go_at_call 24; refine HQ.out.mono ?_; rintro e w4 ⟨rfl, rfl⟩
            go_wp2
            go_roundw
            case rel => exact ⟨k + 1, n, o, by go_num, by omega, by omega, rfl, by omega, hown, hf, HN.out, H3.out⟩
            case measure => simp [RowKit.intOf]; omega
        · cases ins
          · have HN := Lib.hid (h2 rfl)
            clear h1 h2
            go_wp2_with fail
            go_at_call 24; refine HQ.out.mono ?_; rintro e w4 ⟨rfl, rfl⟩
            go_wp2
            go_roundw
            case rel => exact ⟨k + 1, n, o, by go_num, by omega, by omega, rfl, by omega, hown, hf, HN.out, H3.out⟩
            case measure => simp [RowKit.intOf]; omega
          · have HN := Lib.hid (h1 rfl)
            clear h1 h2
            go_wp2_with fail
            go_at_call 24; refine HQ.out.mono ?_; rintro e w4 ⟨rfl, rfl⟩
            go_wp2_with (at_builtin; refine wpList_append_own _ rfl (.tmp 37) (.tmp 39) 22 rfl w.heap.size 3 i0 (.int .i64 0) 1 8 Try.underlying22 hi hz0 hz1 hz2 rfl (by decide) _ _ _ rfl (hown.alloc _) ⟨wr.heap.size, 0, none⟩ 1 1 [.int .i64 z] rfl rfl (at_one _ _) (by intro u hu; simp at hu; subst hu; rfl) (by unfold maxLen; omega) (by omega) (by simp; omega) ?_; intro v' w5 hown' hgrow _)
            have hf2 := fur_own hf hown hgrow
            obtain ⟨p, hp, hpl, hown2⟩ := own_snoc hown'
            rw [hp] at HN
            clear hown' hgrow hp
            go_wp2
            go_roundw
            case rel => exact ⟨k + 1, n, p, by go_num, by omega, by omega, rfl, by omega, hown2, hf2, HN.out, H3.out⟩
            case measure => simp [RowKit.intOf]; omega
      · have hr := h5 (by omega)
        subst hr
        have hn3 : ¬ ((n : Int) < b.length) := by omega
        clear h4 h5
        cases ins
        · have HN := Lib.hid (h1 rfl)
          clear h1 h2
          go_wp2_with fail
          go_at_call 24; refine HQ.out.mono ?_; rintro e w4 ⟨rfl, rfl⟩
          go_wp2_with (at_builtin; refine wpList_append_own _ rfl (.tmp 37) (.tmp 39) 22 rfl w.heap.size 3 i0 (.int .i64 0) 1 8 Try.underlying22 hi hz0 hz1 hz2 rfl (by decide) _ _ _ rfl (hown.alloc _) ⟨wr.heap.size, 0, none⟩ 1 1 [.int .i64 z] rfl rfl (at_one _ _) (by intro u hu; simp at hu; subst hu; rfl) (by unfold maxLen; omega) (by omega) (by simp; omega) ?_; intro v' w5 hown' hgrow _)
          have hf2 := fur_own hf hown hgrow
          obtain ⟨p, hp, hpl, hown2⟩ := own_snoc hown'
          rw [hp] at HN
          clear hown' hgrow hp
          go_wp2
          go_roundw
          case rel => exact ⟨k + 1, n, p, by go_num, by omega, by omega, rfl, by omega, hown2, hf2, HN.out, H3.out⟩
          case measure => simp [RowKit.intOf]; omega
        · have HN := Lib.hid (h2 rfl)
          clear h1 h2
          go_wp2_with fail
          go_at_call 24; refine HQ.out.mono ?_; rintro e w4 ⟨rfl, rfl⟩
          go_wp2
          go_roundw
          case rel => exact ⟨k + 1, n, o, by go_num, by omega, by omega, rfl, by omega, hown, hf, HN.out, H3.out⟩
          case measure => simp [RowKit.intOf]; omega
    · have HE := Lib.hid (HS.out o (by
        have h := HW.out
        rw [List.take_of_length_le (by omega)] at h
        exact h))
      obtain ⟨ao3, c3, rfl, _, hI⟩ := IsS.of_own hown
      clear hown
      go_wp2
      go_ret
      exact rets_of HE.out ⟨ao3, c3, rfl, hI, hf⟩

theorem cont_of (b : List Int) (x : Int) : (ofL b).contains x = b.contains x := by
  rw [Bool.eq_iff_iff, List.contains_iff_mem, List.contains_iff_mem, mem_ofL]
theorem me_ch (a b : List Int) : meL a b = chL (ofL a) (ofL b) true := by
  unfold meL chL
  congr 1
  funext x
  rw [cont_of]
  cases b.contains x <;> rfl
theorem mi_ch (a b : List Int) : miL a b = chL (ofL a) (ofL b) false := by
  unfold miL chL
  congr 1
  funext x
  rw [cont_of]
  cases b.contains x <;> rfl

set_option maxHeartbeats 1600000 in
theorem me_any (ao bo : Option Addr) (a b : List Int) (ca cb : Nat) (w : World) (ha : IsS w ao a ca) (hb : IsS w bo b cb) (la : a.length ≤ 400000) (lb : b.length ≤ 400000) :
    Calls Try.prog 20 #[.slice ao a.length ca, .slice bo b.length cb] w (RetS w (meL a b)) := by
  have HA := Lib.hid (of_any ao a ca w ha (by omega))
  have HB := Lib.hid (fun w1 (f : Fur w w1) => of_any bo b cb w1 (hb.on f) (by omega))
  have HE := Lib.hid (me_ch a b)
  have da := ofL_len a
  have db := ofL_len b
  have sa := ofL_str a
  have sb := ofL_str b
  have HC := fun ao bo ca cb w h1 h2 => choose_any ao bo (ofL a) (ofL b) ca cb true w h1 h2 (by omega) (by omega) sa sb
  generalize ofL a = x at HA HE HC da
  generalize ofL b = y at HB HE HC db
  generalize meL a b = u at HE
  have HD := Lib.hid HC
  clear HC sa sb da db
  go_enter Try.func20, Try.ntmps20
  go_wp2_with fail
  go_at_call 16; refine HA.out.mono ?_; rintro e w1 ⟨ao1, c1, rfl, g1, f1⟩
  go_wp2_with fail
  go_at_call 16; refine (HB.out _ f1).mono ?_; rintro e w2 ⟨ao2, c2, rfl, g2, f2⟩
  go_wp2_with fail
  go_at_call 34; refine (HD.out _ _ _ _ _ (g1.on f2) g2).mono ?_; rintro e w3 ⟨ao3, c3, rfl, g3, f3⟩
  go_wp2
  go_ret
  exact rets_of HE.out ⟨ao3, c3, rfl, g3, (f1.trans f2).trans f3⟩

set_option maxHeartbeats 1600000 in
theorem mi_any (ao bo : Option Addr) (a b : List Int) (ca cb : Nat) (w : World) (ha : IsS w ao a ca) (hb : IsS w bo b cb) (la : a.length ≤ 400000) (lb : b.length ≤ 400000) :
    Calls Try.prog 22 #[.slice ao a.length ca, .slice bo b.length cb] w (RetS w (miL a b)) := by
  have HA := Lib.hid (of_any ao a ca w ha (by omega))
  have HB := Lib.hid (fun w1 (f : Fur w w1) => of_any bo b cb w1 (hb.on f) (by omega))
  have HE := Lib.hid (mi_ch a b)
  have da := ofL_len a
  have db := ofL_len b
  have sa := ofL_str a
  have sb := ofL_str b
  have HC := fun ao bo ca cb w h1 h2 => choose_any ao bo (ofL a) (ofL b) ca cb false w h1 h2 (by omega) (by omega) sa sb
  generalize ofL a = x at HA HE HC da
  generalize ofL b = y at HB HE HC db
  generalize miL a b = u at HE
  have HD := Lib.hid HC
  clear HC sa sb da db
  go_enter Try.func22, Try.ntmps22
  go_wp2_with fail
  go_at_call 16; refine HA.out.mono ?_; rintro e w1 ⟨ao1, c1, rfl, g1, f1⟩
  go_wp2_with fail
  go_at_call 16; refine (HB.out _ f1).mono ?_; rintro e w2 ⟨ao2, c2, rfl, g2, f2⟩
  go_wp2_with fail
  go_at_call 34; refine (HD.out _ _ _ _ _ (g1.on f2) g2).mono ?_; rintro e w3 ⟨ao3, c3, rfl, g3, f3⟩
  go_wp2
  go_ret
  exact rets_of HE.out ⟨ao3, c3, rfl, g3, (f1.trans f2).trans f3⟩
end Go.Proofs.Ytmmkcnohicfjeaa
