/-
  The reference's Of, Union, Meet and Minus give the set of a slice, the union, the intersection and the difference of two slices as new slices. For slices of at most 400,000 ints; nothing that was there turns.
-/
import Derived.Test.YtmmkcnohicfjeaaIsO
import Derived.Deep.AppendLies
namespace Go.Proofs.Ytmmkcnohicfjeaa
open Go.RowKit

theorem fur_own {w w1 w2 : World} {e n : Nat} {v : Value} {xs : List Value} {o : Obj} (hf : Fur w w1) (hown : w1.ownsRow w.heap.size e 1 v n xs) (hg : (w1.alloc o).grownBy w2 v.ownBlock) : Fur w w2 :=
  Below.grown (hf.alloc o) hg (by have := hf.size; simp; omega) (fun k hk => (hown.lt k hk).1)
theorem at_one (w : World) (z : Int) : ∀ j u, [Value.int .i64 z][j]? = some u → (w.alloc (.cells #[.int .i64 z] 3)).cell? ((⟨w.heap.size, 0, none⟩ : Addr).add j) = some u := by
  intro j u hj
  match j, hj with
  | 0, hj => simp at hj; subst hj; simp [Addr.add]
theorem own_snoc {w : World} {base : Nat} {v : Value} {o : List Int} {z : Int} (h : w.ownsRow base 3 1 v (o.length + 1) (cs o ++ [.int .i64 z])) : ∃ p : List Int, o ++ [z] = p ∧ p.length ≤ o.length + 1 ∧ w.ownsRow base 3 1 v p.length (cs p) :=
  ⟨o ++ [z], rfl, by simp, by rw [cs_app, List.length_append]; exact h⟩

/-- Where the reference's insertion stands at place k. -/
def WI (zs : List Int) (x : Int) (k : Nat) (o : List Int) : Bool → Prop
  | false => o = zs.take k ∧ ∀ y ∈ zs.take k, y < x
  | true => o ++ zs.drop k = insL zs x
theorem ins_lt {l : List Int} {x : Int} (k : Nat) (hk : k < l.length) (h : ∀ y ∈ l.take k, y < x) (hx : x < l[k]) : insL l x = l.take k ++ x :: l.drop k := by
  induction l generalizing k with
  | nil => simp at hk
  | cons y l ih =>
    cases k with
    | zero =>
      simp only [List.getElem_cons_zero] at hx
      unfold insL
      rw [if_pos hx]; rfl
    | succ k =>
      have hy : y < x := h y (by simp)
      unfold insL
      rw [if_neg (by omega), if_neg (by omega), ih k (by simpa using hk) (fun z hz => h z (by simp [hz])) (by simpa using hx)]
      rfl
theorem ins_eq {l : List Int} {x : Int} (k : Nat) (hk : k < l.length) (h : ∀ y ∈ l.take k, y < x) (hx : l[k] = x) : insL l x = l := by
  induction l generalizing k with
  | nil => simp at hk
  | cons y l ih =>
    cases k with
    | zero =>
      simp only [List.getElem_cons_zero] at hx
      unfold insL
      rw [if_neg (by omega), if_pos hx.symm]
    | succ k =>
      have hy : y < x := h y (by simp)
      unfold insL
      rw [if_neg (by omega), if_neg (by omega), ih k (by simpa using hk) (fun z hz => h z (by simp [hz])) (by simpa using hx)]
theorem ins_end {l : List Int} {x : Int} (h : ∀ y ∈ l, y < x) : insL l x = l ++ [x] := by
  induction l with
  | nil => rfl
  | cons y l ih =>
    have hy : y < x := h y (by simp)
    unfold insL
    rw [if_neg (by omega), if_neg (by omega), ih (fun z hz => h z (by simp [hz]))]
    rfl
theorem wi_lt {zs o : List Int} {x : Int} (k : Nat) (hk : k < zs.length) (h : WI zs x k o false) (hz : zs.getD k 0 < x) : WI zs x (k + 1) (o ++ [zs.getD k 0]) false := by
  obtain ⟨rfl, ha⟩ := h
  rw [getD_at hk] at hz ⊢
  have e := List.take_succ_eq_append_getElem hk
  refine ⟨e.symm, fun y hy => ?_⟩
  rw [e] at hy
  rcases List.mem_append.1 hy with j | j
  · exact ha y j
  · rw [List.mem_singleton.1 j]; exact hz
theorem wi_eq {zs o : List Int} {x : Int} (k : Nat) (hk : k < zs.length) (h : WI zs x k o false) (hz : zs.getD k 0 = x) : WI zs x (k + 1) (o ++ [zs.getD k 0]) true := by
  obtain ⟨rfl, ha⟩ := h
  rw [getD_at hk] at hz ⊢
  show _ = insL zs x
  rw [ins_eq k hk ha hz, ← List.take_succ_eq_append_getElem hk, List.take_append_drop]
theorem wi_gt {zs o : List Int} {x : Int} (k : Nat) (hk : k < zs.length) (h : WI zs x k o false) (hz : x < zs.getD k 0) : WI zs x (k + 1) ((o ++ [x]) ++ [zs.getD k 0]) true := by
  obtain ⟨rfl, ha⟩ := h
  rw [getD_at hk] at hz ⊢
  show _ = insL zs x
  rw [ins_lt k hk ha hz, List.drop_eq_getElem_cons hk]
  simp
theorem wi_done {zs o : List Int} {x : Int} (k : Nat) (hk : k < zs.length) (h : WI zs x k o true) : WI zs x (k + 1) (o ++ [zs.getD k 0]) true := by
  have h' : o ++ zs.drop k = insL zs x := h
  rw [getD_at hk]
  show _ = insL zs x
  rw [← h', List.drop_eq_getElem_cons hk]
  simp
theorem wi_end_t {zs o : List Int} {x : Int} (k : Nat) (hk : zs.length ≤ k) (h : WI zs x k o true) : o = insL zs x := by
  have h' : o ++ zs.drop k = insL zs x := h
  rw [List.drop_of_length_le hk, List.append_nil] at h'
  exact h'
theorem wi_end_f {zs o : List Int} {x : Int} (k : Nat) (hk : zs.length ≤ k) (h : WI zs x k o false) : o ++ [x] = insL zs x := by
  obtain ⟨rfl, ha⟩ := h
  rw [List.take_of_length_le hk] at ha ⊢
  exact (ins_end ha).symm

set_option maxHeartbeats 3200000 in
theorem with_own (ao : Option Addr) (zs : List Int) (cap : Nat) (x : Int) (w : World) (hs : IsS w ao zs cap) (hl : zs.length ≤ 1000000) :
    Calls Try.prog 32 #[.slice ao zs.length cap, .int .i64 x] w (RetO w (insL zs x)) := by
  obtain ⟨i0, hi, hz0, hz1, hz2⟩ := info_parts infoI
  go_enter Try.func32, Try.ntmps32
  go_wp2
  go_loopw [5, 6, 7] (fun v d i wr => ∃ (k : Nat) (o : List Int) (dn : Bool), i = .int .i64 k ∧ k ≤ zs.length ∧ o.length ≤ 2 * k ∧ d = .bool dn ∧ wr.ownsRow w.heap.size 3 1 v o.length (cs o) ∧ Fur w wr ∧ Hid (WI zs x k o dn)) (fun _ _ i _ => zs.length - (RowKit.intOf i).toNat)
  case atStart => exact ⟨0, [], false, rfl, Nat.zero_le _, Nat.zero_le _, rfl, World.ownsRow_nil _ _ _ _, Fur.refl _, ⟨rfl, by simp⟩⟩
  case round =>
    obtain ⟨k, o, dn, rfl, hk, ho, rfl, hown, hf, HW⟩ := hrel
    have hsz := hf.size
    by_cases hlt : k < zs.length
    · obtain ⟨b, off, rfl, hb, hc⟩ := (hs.on hf).at_ (by omega)
      have c0 := hc k hlt
      clear hc
      have h1 := fun (h : WI zs x k o false) => wi_lt k hlt h
      have h2 := fun (h : WI zs x k o false) => wi_eq k hlt h
      have h3 := fun (h : WI zs x k o false) => wi_gt k hlt h
      have h4 := fun (h : WI zs x k o true) => wi_done k hlt h
      obtain ⟨z, hz⟩ : ∃ z, zs.getD k 0 = z := ⟨_, rfl⟩
      rw [hz] at c0 h1 h2 h3 h4
      clear hz
      cases dn
      · rcases (show z < x ∨ z = x ∨ x < z by omega) with h | h | h
        · have HN := Lib.hid (h1 HW.out h)
          have hb : (z == x) = false := by rw [beq_eq_false_iff_ne]; omega
          clear h1 h2 h3 h4
          go_wp2_with (at_builtin; refine wpList_append_own _ rfl (.tmp 34) (.tmp 39) 22 rfl w.heap.size 3 i0 (.int .i64 0) 1 8 Try.underlying22 hi hz0 hz1 hz2 rfl (by decide) _ _ _ rfl (hown.alloc _) ⟨wr.heap.size, 0, none⟩ 1 1 [.int .i64 z] rfl rfl (at_one _ _) (by intro u hu; simp at hu; subst hu; rfl) (by unfold maxLen; omega) (by omega) (by simp; omega) ?_; intro v' w5 hown' hgrow _)
          have hf2 := fur_own hf hown hgrow
          obtain ⟨p, hp, hpl, hown2⟩ := own_snoc hown'
          rw [hp] at HN
          clear hown' hgrow hp
          go_wp2
          go_roundw
          case rel => exact ⟨k + 1, p, false, by go_num, by omega, by omega, rfl, hown2, hf2, HN.out⟩
          case measure => simp [RowKit.intOf]; omega
        · have HN := Lib.hid (h2 HW.out h)
          subst h
          have hb : (z == z) = true := by simp
          clear h1 h2 h3 h4
          go_wp2_with (at_builtin; refine wpList_append_own _ rfl (.tmp 34) (.tmp 39) 22 rfl w.heap.size 3 i0 (.int .i64 0) 1 8 Try.underlying22 hi hz0 hz1 hz2 rfl (by decide) _ _ _ rfl (hown.alloc _) ⟨wr.heap.size, 0, none⟩ 1 1 [.int .i64 z] rfl rfl (at_one _ _) (by intro u hu; simp at hu; subst hu; rfl) (by unfold maxLen; omega) (by omega) (by simp; omega) ?_; intro v' w5 hown' hgrow _)
          have hf2 := fur_own hf hown hgrow
          obtain ⟨p, hp, hpl, hown2⟩ := own_snoc hown'
          rw [hp] at HN
          clear hown' hgrow hp
          go_wp2
          go_roundw
          case rel => exact ⟨k + 1, p, true, by go_num, by omega, by omega, rfl, hown2, hf2, HN.out⟩
          case measure => simp [RowKit.intOf]; omega
        · have HN := Lib.hid (h3 HW.out h)
          have hb : (z == x) = false := by rw [beq_eq_false_iff_ne]; omega
          clear h1 h2 h3 h4
          go_wp2_with (first | fail | (at_builtin; refine wpList_append_own _ rfl (.tmp 30) (.tmp 32) 22 rfl w.heap.size 3 i0 (.int .i64 0) 1 8 Try.underlying22 hi hz0 hz1 hz2 rfl (by decide) _ _ _ rfl (hown.alloc _) ⟨wr.heap.size, 0, none⟩ 1 1 [.int .i64 x] rfl rfl (at_one _ _) (by intro u hu; simp at hu; subst hu; rfl) (by unfold maxLen; omega) (by omega) (by simp; omega) ?_; intro v' w5 hown' hgrow _; refine Hid.out ?_))
          refine Lib.hid ?_
          have hf2 := fur_own hf hown hgrow
          obtain ⟨p, hp, hpl, hown2⟩ := own_snoc hown'
          rw [hp] at HN
          have c1 : w5.cell? ⟨b, off + k, none⟩ = some (.int .i64 z) := by
            obtain ⟨b', off', e, hb', hc'⟩ := (hs.on hf2).at_ (by omega)
            cases e
            have hq := hc' k hlt
            obtain ⟨b3, off3, e3, hb3, hc3⟩ := (hs.on hf).at_ (by omega)
            cases e3
            have hq3 := hc3 k hlt
            rw [hq3] at c0
            rw [hq]; exact c0
          clear hown' hgrow hp c0
          have hsz2 := hf2.size
          go_wp2_with (at_builtin; refine wpList_append_own _ rfl (.tmp 34) (.tmp 39) 22 rfl w.heap.size 3 i0 (.int .i64 0) 1 8 Try.underlying22 hi hz0 hz1 hz2 rfl (by decide) _ _ _ rfl (hown2.alloc _) ⟨w5.heap.size, 0, none⟩ 1 1 [.int .i64 z] rfl rfl (at_one _ _) (by intro u hu; simp at hu; subst hu; rfl) (by unfold maxLen; omega) (by omega) (by simp; omega) ?_; intro v6 w6 hown' hgrow _)
          have hf3 := fur_own hf2 hown2 hgrow
          obtain ⟨q, hq, hql, hown3⟩ := own_snoc hown'
          rw [hq] at HN
          clear hown' hgrow hq
          go_wp2
          go_roundw
          case rel => exact ⟨k + 1, q, true, by go_num, by omega, by omega, rfl, hown3, hf3, HN.out⟩
          case measure => simp [RowKit.intOf]; omega
      · have HN := Lib.hid (h4 HW.out)
        clear h1 h2 h3 h4
        by_cases h : z = x
        · subst h
          have hb : (z == z) = true := by simp
          go_wp2_with (at_builtin; refine wpList_append_own _ rfl (.tmp 34) (.tmp 39) 22 rfl w.heap.size 3 i0 (.int .i64 0) 1 8 Try.underlying22 hi hz0 hz1 hz2 rfl (by decide) _ _ _ rfl (hown.alloc _) ⟨wr.heap.size, 0, none⟩ 1 1 [.int .i64 z] rfl rfl (at_one _ _) (by intro u hu; simp at hu; subst hu; rfl) (by unfold maxLen; omega) (by omega) (by simp; omega) ?_; intro v' w5 hown' hgrow _)
          have hf2 := fur_own hf hown hgrow
          obtain ⟨p, hp, hpl, hown2⟩ := own_snoc hown'
          rw [hp] at HN
          clear hown' hgrow hp
          go_wp2
          go_roundw
          case rel => exact ⟨k + 1, p, true, by go_num, by omega, by omega, rfl, hown2, hf2, HN.out⟩
          case measure => simp [RowKit.intOf]; omega
        · have hb : (z == x) = false := by simpa using h
          by_cases h5 : x < z
          all_goals
            go_wp2_with (at_builtin; refine wpList_append_own _ rfl (.tmp 34) (.tmp 39) 22 rfl w.heap.size 3 i0 (.int .i64 0) 1 8 Try.underlying22 hi hz0 hz1 hz2 rfl (by decide) _ _ _ rfl (hown.alloc _) ⟨wr.heap.size, 0, none⟩ 1 1 [.int .i64 z] rfl rfl (at_one _ _) (by intro u hu; simp at hu; subst hu; rfl) (by unfold maxLen; omega) (by omega) (by simp; omega) ?_; intro v' w5 hown' hgrow _)
            have hf2 := fur_own hf hown hgrow
            obtain ⟨p, hp, hpl, hown2⟩ := own_snoc hown'
            rw [hp] at HN
            clear hown' hgrow hp
            go_wp2
            go_roundw
            case rel => exact ⟨k + 1, p, true, by go_num, by omega, by omega, rfl, hown2, hf2, HN.out⟩
            case measure => simp [RowKit.intOf]; omega
    · cases dn
      · have HE := Lib.hid (wi_end_f k (by omega) HW.out)
        go_wp2_with (at_builtin; refine wpList_append_own _ rfl (.tmp 43) (.tmp 45) 22 rfl w.heap.size 3 i0 (.int .i64 0) 1 8 Try.underlying22 hi hz0 hz1 hz2 rfl (by decide) _ _ _ rfl (hown.alloc _) ⟨wr.heap.size, 0, none⟩ 1 1 [.int .i64 x] rfl rfl (at_one _ _) (by intro u hu; simp at hu; subst hu; rfl) (by unfold maxLen; omega) (by omega) (by simp; omega) ?_; intro v' w5 hown' hgrow _)
        have hf2 := fur_own hf hown hgrow
        obtain ⟨p, hp, hpl, hown2⟩ := own_snoc hown'
        rw [hp] at HE
        clear hown' hgrow hp
        go_wp2
        go_ret
        exact ⟨_, rfl, HE.out ▸ hown2, hf2⟩
      · have HE := Lib.hid (wi_end_t k (by omega) HW.out)
        go_wp2
        go_ret
        exact ⟨_, rfl, HE.out ▸ hown, hf⟩
theorem with_any (ao : Option Addr) (zs : List Int) (cap : Nat) (x : Int) (w : World) (hs : IsS w ao zs cap) (hl : zs.length ≤ 1000000) :
    Calls Try.prog 32 #[.slice ao zs.length cap, .int .i64 x] w (RetS w (insL zs x)) := (with_own ao zs cap x w hs hl).mono fun _ _ => ret_own
end Go.Proofs.Ytmmkcnohicfjeaa
