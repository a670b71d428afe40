
/-
  slices.BinarySearchFunc of entries in order, by overlay's order: where an entry would stand. Nothing that was there turns.
-/
import Derived.Test.YtpjikijfendmhaaGreatOvJ
namespace Go.Proofs.YtpjikijfendmhaaGreat
open Go.RowKit

/-- Where the search stands; where it ends. -/
def BsJ (l : List Aj) (x : Aj) (i j : Nat) : Prop := i ≤ j ∧ j ≤ l.length ∧ (∀ k (h : k < l.length), k < i → adjL l[k] x = true) ∧ ∀ k (h : k < l.length), j ≤ k → adjL l[k] x = false
theorem bsJ_mid {l : List Aj} {x : Aj} {i j : Nat} (hp : incJ l = true) (h : BsJ l x i j) (hij : i < j) (hm : (i + j) / 2 < l.length) :
    (adjL l[(i + j) / 2] x = true → BsJ l x ((i + j) / 2 + 1) j) ∧ (adjL l[(i + j) / 2] x = false → BsJ l x i ((i + j) / 2)) := by
  obtain ⟨h1, h2, h3, h4⟩ := h
  have hp' := List.pairwise_iff_getElem.1 (incJ_iff.1 hp)
  refine ⟨fun hx => ⟨by omega, h2, fun k hk hk' => ?_, h4⟩, fun hx => ⟨by omega, by omega, h3, fun k hk hk' => ?_⟩⟩
  · rcases Nat.lt_or_eq_of_le (show k ≤ (i + j) / 2 by omega) with g | g
    · exact adjL_tr (hp' k _ hk hm g) hx
    · subst g; exact hx
  · rcases Nat.lt_or_eq_of_le hk' with g | g
    · rw [Bool.eq_false_iff]
      intro q
      have := adjL_tr (hp' _ k hm hk g) q
      rw [hx] at this; cases this
    · subst g; exact hx
theorem putJ_at : ∀ {l : List Aj} {x : Aj} {i : Nat}, incJ l = true → BsJ l x i i → l.take i ++ [x] ++ l.drop i = putJ l x
  | [], x, i, _, _ => by
    have e1 : ([] : List Aj).take i = [] := List.take_nil
    have e2 : ([] : List Aj).drop i = [] := List.drop_nil
    rw [e1, e2]; rfl
  | y :: r, x, 0, _, ⟨_, _, _, h4⟩ => by
    have h := h4 0 (by simp) (Nat.le_refl _)
    unfold putJ
    rw [if_neg (by rw [show (y :: r)[0] = y from rfl] at h; rw [h]; decide)]; rfl
  | y :: r, x, i + 1, hp, ⟨_, h2, h3, h4⟩ => by
    have h := h3 0 (by simp) (by omega)
    unfold putJ
    rw [if_pos (by rw [show (y :: r)[0] = y from rfl] at h; exact h)]
    have hr : incJ r = true := incJ_iff.2 (List.pairwise_cons.1 (incJ_iff.1 hp)).2
    have I := putJ_at (l := r) (x := x) (i := i) hr ⟨Nat.le_refl _, by simpa using h2, fun k hk hk' => h3 (k + 1) (by simpa using hk) (by omega), fun k hk hk' => h4 (k + 1) (by simpa using hk) (by omega)⟩
    rw [← I]; rfl
def RetBf (w : World) (l : List Aj) (x : Aj) (y : Ending) (w' : World) : Prop := ∃ (i : Nat) (f : Bool), y = .returned (.tuple #[.int .i64 i, .bool f]) ∧ BsJ l x i i ∧ Fuw w w'
set_option maxHeartbeats 6400000 in
set_option maxRecDepth 100000 in
theorem bsf_any (l : List Aj) (ao : Option Addr) (cap : Nat) (x : Aj) (w : World) (hs : SlJ w ao l cap) (hp : incJ l = true) (hn : l.length ≤ 1000000) :
    Calls Tryz.prog 53 #[.slice ao l.length cap, adv x, .func (.func 36) #[] #[]] w (RetBf w l x) := by
  obtain ⟨x0, x1, x2⟩ := x
  obtain ⟨w0, hw0⟩ : ∃ w0, w.alloc (.cells #[.int .i64 x0, .int .i64 x1, .int .i64 x2] 42) = w0 := ⟨_, rfl⟩
  have B0 := Lib.hid (show Bk w0 w.heap.size #[.int .i64 x0, .int .i64 x1, .int .i64 x2] 42 by rw [← hw0]; exact Bk.new _ _ _)
  have F0 := Lib.hid (show Fuw w w0 by rw [← hw0]; exact fuwA _ _)
  have HS := Lib.hid (slJ_on F0.out hs)
  have HP := Lib.hid hp
  have HB := Lib.hid (show BsJ l (x0, x1, x2) 0 l.length from ⟨Nat.zero_le _, Nat.le_refl _, fun k _ h => absurd h (by omega), fun k h h' => absurd h (by omega)⟩)
  unfold adv
  clear hs hp
  go_enter Tryz.func53, Tryz.ntmps53
  go_upto_region 1 with fail
  clear hw0
  go_wp2
  go_loopw [9, 10] (fun iv jv wr => ∃ i j : Nat, iv = .int .i64 i ∧ jv = .int .i64 j ∧ i ≤ j ∧ j ≤ l.length ∧ Hid (BsJ l (x0, x1, x2) i j) ∧ Hid (Fuw w0 wr)) (fun iv jv _ => (RowKit.intOf jv).toNat - (RowKit.intOf iv).toNat)
  case atStart => exact ⟨0, l.length, rfl, rfl, Nat.zero_le _, Nat.le_refl _, HB, Lib.hid (Fuw.refl _)⟩
  case round =>
    obtain ⟨i, j, rfl, rfl, hij, hj, HI, hf⟩ := hrel
    have d0 := (B0.out.on hf.out).c 0; have d1 := (B0.out.on hf.out).c 1; have d2 := (B0.out.on hf.out).c 2
    simp only [List.getElem?_toArray, List.getElem?_cons_zero, List.getElem?_cons_succ] at d0 d1 d2
    by_cases hlt : i < j
    · have hm : (i + j) / 2 < l.length := by omega
      obtain ⟨b, o, rfl, -, -, -, c0, c1, c2⟩ := (slJ_on hf.out HS.out).get hm
      have HM := Lib.hid (bsJ_mid HP.out HI.out hlt hm)
      have hh : ((i : Int) + (j : Int)) / 2 = ((i + j) / 2 : Nat) := by omega
      have HC := Lib.hid (fun w' => ordo_any l[(i + j) / 2] (x0, x1, x2) w')
      have HD := Lib.hid (adjc_lt l[(i + j) / 2] (x0, x1, x2))
      obtain ⟨q, hq⟩ : ∃ q, q = adjc l[(i + j) / 2] (x0, x1, x2) := ⟨_, rfl⟩
      rw [← hq] at HC HD
      clear hq
      unfold adv at HC
      have h1 : i ≤ (i + j) / 2 := by omega
      have h2 : (i + j) / 2 < j := by omega
      generalize l[(i + j) / 2] = y at *
      generalize (i + j) / 2 = m at *
      obtain ⟨y0, y1, y2⟩ := y
      simp only at c0 c1 c2 HC
      have hij' : (i : Int) < (j : Int) := by omega
      go_upto_region 5 with fail
      clear hh
      have z1 : (m : Int) < (l.length : Int) := by omega
      obtain ⟨S, hS⟩ : ∃ S : World → Prop, S = (fun w8 => w8.cell? ⟨b, o + m * 3, none⟩ = some (.int .i64 y0) ∧ w8.cell? ⟨b, o + m * 3 + 1, none⟩ = some (.int .i64 y1) ∧ w8.cell? ⟨b, o + m * 3 + 2, none⟩ = some (.int .i64 y2) ∧ w8.cell? ⟨w.heap.size, 0, none⟩ = some (.int .i64 x0) ∧ w8.cell? ⟨w.heap.size, 1, none⟩ = some (.int .i64 x1) ∧ w8.cell? ⟨w.heap.size, 2, none⟩ = some (.int .i64 x2)) := ⟨_, rfl⟩
      have HS5 := Lib.hid hS
      clear hS
      refine lst_start [6] S (by kernel_rfl) ?_
      have hS0 : S wr.drew := by rw [HS5.out]; exact ⟨c0, c1, c2, d0, d1, d2⟩
      refine takeP (i := 0) (d := some 24) (v := ?_) rfl rfl (by kernel_rfl) (by kernel_rfl) (by kernel_rfl) (by kernel_rfl) (by kernel_rfl) (fun _ _ _ h => h) (Or.inl ⟨by rfl, ?_⟩) (by first | exact Or.inr (by assumption) | exact Or.inl (by kernel_rfl)) ?_
      rotate_left
      · ((intro w8 _; go_simp); try with_reducible rfl)
      try simp only [Act.put]
      try simp only [List.setIfInBounds_toArray]
      try simp only [List.set_cons_succ]
      try simp only [List.set_cons_zero]
      refine takeP (i := 1) (d := some 25) (v := ?_) rfl rfl (by kernel_rfl) (by kernel_rfl) (by kernel_rfl) (by kernel_rfl) (by kernel_rfl) (fun _ _ _ h => h) (Or.inl ⟨by rfl, ?_⟩) (by first | exact Or.inr (by assumption) | exact Or.inl (by kernel_rfl)) ?_
      rotate_left
      · ((intro w8 _; go_simp); try with_reducible rfl)
      try simp only [Act.put]
      try simp only [List.setIfInBounds_toArray]
      try simp only [List.set_cons_succ]
      try simp only [List.set_cons_zero]
      refine takeP (i := 2) (d := some 26) (v := ?_) rfl rfl (by kernel_rfl) (by kernel_rfl) (by kernel_rfl) (by kernel_rfl) (by kernel_rfl) (fun _ _ _ h => h) (Or.inl ⟨by rfl, ?_⟩) (by first | exact Or.inr (by assumption) | exact Or.inl (by kernel_rfl)) ?_
      rotate_left
      · ((intro w8 _; go_simp); try with_reducible rfl)
      try simp only [Act.put]
      try simp only [List.setIfInBounds_toArray]
      try simp only [List.set_cons_succ]
      try simp only [List.set_cons_zero]
      refine takeP (i := 3) (d := some 27) (v := ?_) rfl rfl (by kernel_rfl) (by kernel_rfl) (by kernel_rfl) (by kernel_rfl) (by kernel_rfl) (fun _ _ _ h => h) (Or.inl ⟨by rfl, ?_⟩) (by first | exact Or.inr (by assumption) | exact Or.inl (by kernel_rfl)) ?_
      rotate_left
      · ((intro w8 _; go_simp); try with_reducible rfl)
      try simp only [Act.put]
      try simp only [List.setIfInBounds_toArray]
      try simp only [List.set_cons_succ]
      try simp only [List.set_cons_zero]
      refine takeL (i := 4) (d := some 28) (v := ?_) rfl rfl (by kernel_rfl) (by kernel_rfl) (by kernel_rfl) (by kernel_rfl) (by kernel_rfl) (fun _ _ _ h => h) (Or.inl ⟨by rfl, ?_⟩) (by assumption) ?_
      rotate_left
      · ((intro w8 hSw; rw [HS5.out] at hSw; obtain ⟨y3, y4, y5, y6, y7, y8⟩ := hSw; go_simp); try with_reducible rfl)
      try simp only [Act.put]
      try simp only [List.setIfInBounds_toArray]
      try simp only [List.set_cons_succ]
      try simp only [List.set_cons_zero]
      refine takeL (i := 5) (d := some 29) (v := ?_) rfl rfl (by kernel_rfl) (by kernel_rfl) (by kernel_rfl) (by kernel_rfl) (by kernel_rfl) (fun _ _ _ h => h) (Or.inl ⟨by rfl, ?_⟩) (by assumption) ?_
      rotate_left
      · ((intro w8 hSw; rw [HS5.out] at hSw; obtain ⟨y3, y4, y5, y6, y7, y8⟩ := hSw; go_simp); try with_reducible rfl)
      try simp only [Act.put]
      try simp only [List.setIfInBounds_toArray]
      try simp only [List.set_cons_succ]
      try simp only [List.set_cons_zero]
      refine outL (i := 6) rfl (by kernel_rfl) (by kernel_rfl) (fun K8 hK8 => ?_)
      go_simp
      go_at_call 36; refine (HC.out _).mono ?_; rintro e9 w9 ⟨rfl, f9⟩
      have HF := Lib.hid ((hf.out.trans (fuw_dr wr 1)).trans f9.w)
      refine hK8 _ _ ?_
      try simp only [Act.put]
      try simp only [List.setIfInBounds_toArray]
      try simp only [List.set_cons_succ]
      try simp only [List.set_cons_zero]
      refine takeP (i := 7) (d := some 31) (v := ?_) rfl rfl (by kernel_rfl) (by kernel_rfl) (by kernel_rfl) (by kernel_rfl) (by kernel_rfl) (fun _ _ _ h => h) (Or.inl ⟨by rfl, ?_⟩) (by first | exact Or.inr (by assumption) | exact Or.inl (by kernel_rfl)) ?_
      rotate_left
      · ((intro w8 _; go_simp); try with_reducible rfl)
      try simp only [Act.put]
      try simp only [List.setIfInBounds_toArray]
      try simp only [List.set_cons_succ]
      try simp only [List.set_cons_zero]
      refine lst_done (by kernel_rfl) ?_ _
      by_cases hz : q < 0
      · have HZ := Lib.hid (HM.out.1 (by rw [← HD.out, decide_eq_true hz]))
        go_wp2
        go_roundw
        case rel => exact ⟨m + 1, j, by go_num, rfl, by omega, hj, HZ, HF⟩
        case measure => simp [RowKit.intOf]; omega
      · have HZ := Lib.hid (HM.out.2 (by rw [← HD.out, decide_eq_false hz]))
        go_wp2
        go_roundw
        case rel => exact ⟨i, m, rfl, rfl, h1, by omega, HZ, HF⟩
        case measure => simp [RowKit.intOf]; omega
    · obtain rfl : i = j := by omega
      by_cases hi : i < l.length
      · obtain ⟨b, o, rfl, -, -, -, c0, c1, c2⟩ := (slJ_on hf.out HS.out).get hi
        have HC := Lib.hid (fun w' => ordo_any l[i] (x0, x1, x2) w')
        unfold adv at HC
        generalize adjc l[i] (x0, x1, x2) = q at *
        generalize l[i] = y at *
        obtain ⟨y0, y1, y2⟩ := y
        simp only at c0 c1 c2 HC
        have z1 : (i : Int) < (l.length : Int) := by omega
        go_upto_region 8 with fail
        obtain ⟨S, hS⟩ : ∃ S : World → Prop, S = (fun w8 => w8.cell? ⟨b, o + i * 3, none⟩ = some (.int .i64 y0) ∧ w8.cell? ⟨b, o + i * 3 + 1, none⟩ = some (.int .i64 y1) ∧ w8.cell? ⟨b, o + i * 3 + 2, none⟩ = some (.int .i64 y2) ∧ w8.cell? ⟨w.heap.size, 0, none⟩ = some (.int .i64 x0) ∧ w8.cell? ⟨w.heap.size, 1, none⟩ = some (.int .i64 x1) ∧ w8.cell? ⟨w.heap.size, 2, none⟩ = some (.int .i64 x2)) := ⟨_, rfl⟩
        have HS5 := Lib.hid hS
        clear hS
        refine lst_start [11] S (by kernel_rfl) ?_
        have hS0 : S wr.drew := by rw [HS5.out]; exact ⟨c0, c1, c2, d0, d1, d2⟩
        refine takeP (i := 0) (d := some 35) (v := ?_) rfl rfl (by kernel_rfl) (by kernel_rfl) (by kernel_rfl) (by kernel_rfl) (by kernel_rfl) (fun _ _ _ h => h) (Or.inl ⟨by rfl, ?_⟩) (by first | exact Or.inr (by assumption) | exact Or.inl (by kernel_rfl)) ?_
        rotate_left
        · ((intro w8 _; go_simp); try with_reducible rfl)
        try simp only [Act.put]
        try simp only [List.setIfInBounds_toArray]
        try simp only [List.set_cons_succ]
        try simp only [List.set_cons_zero]
        refine takeP (i := 1) (d := some 36) (v := ?_) rfl rfl (by kernel_rfl) (by kernel_rfl) (by kernel_rfl) (by kernel_rfl) (by kernel_rfl) (fun _ _ _ h => h) (Or.inl ⟨by rfl, ?_⟩) (by first | exact Or.inr (by assumption) | exact Or.inl (by kernel_rfl)) ?_
        rotate_left
        · ((intro w8 _; go_simp); try with_reducible rfl)
        try simp only [Act.put]
        try simp only [List.setIfInBounds_toArray]
        try simp only [List.set_cons_succ]
        try simp only [List.set_cons_zero]
        refine takeP (i := 2) (d := some 37) (v := ?_) rfl rfl (by kernel_rfl) (by kernel_rfl) (by kernel_rfl) (by kernel_rfl) (by kernel_rfl) (fun _ _ _ h => h) (Or.inl ⟨by rfl, ?_⟩) (by first | exact Or.inr (by assumption) | exact Or.inl (by kernel_rfl)) ?_
        rotate_left
        · ((intro w8 _; go_simp); try with_reducible rfl)
        try simp only [Act.put]
        try simp only [List.setIfInBounds_toArray]
        try simp only [List.set_cons_succ]
        try simp only [List.set_cons_zero]
        refine takeP (i := 3) (d := some 38) (v := ?_) rfl rfl (by kernel_rfl) (by kernel_rfl) (by kernel_rfl) (by kernel_rfl) (by kernel_rfl) (fun _ _ _ h => h) (Or.inl ⟨by rfl, ?_⟩) (by first | exact Or.inr (by assumption) | exact Or.inl (by kernel_rfl)) ?_
        rotate_left
        · ((intro w8 _; go_simp); try with_reducible rfl)
        try simp only [Act.put]
        try simp only [List.setIfInBounds_toArray]
        try simp only [List.set_cons_succ]
        try simp only [List.set_cons_zero]
        refine takeP (i := 4) (d := some 39) (v := ?_) rfl rfl (by kernel_rfl) (by kernel_rfl) (by kernel_rfl) (by kernel_rfl) (by kernel_rfl) (fun _ _ _ h => h) (Or.inl ⟨by rfl, ?_⟩) (by first | exact Or.inr (by assumption) | exact Or.inl (by kernel_rfl)) ?_
        rotate_left
        · ((intro w8 _; go_simp); try with_reducible rfl)
        try simp only [Act.put]
        try simp only [List.setIfInBounds_toArray]
        try simp only [List.set_cons_succ]
        try simp only [List.set_cons_zero]
        refine takeP (i := 5) (d := some 40) (v := ?_) rfl rfl (by kernel_rfl) (by kernel_rfl) (by kernel_rfl) (by kernel_rfl) (by kernel_rfl) (fun _ _ _ h => h) (Or.inl ⟨by rfl, ?_⟩) (by first | exact Or.inr (by assumption) | exact Or.inl (by kernel_rfl)) ?_
        rotate_left
        · ((intro w8 _; go_simp); try with_reducible rfl)
        try simp only [Act.put]
        try simp only [List.setIfInBounds_toArray]
        try simp only [List.set_cons_succ]
        try simp only [List.set_cons_zero]
        refine takeP (i := 6) (d := some 41) (v := ?_) rfl rfl (by kernel_rfl) (by kernel_rfl) (by kernel_rfl) (by kernel_rfl) (by kernel_rfl) (fun _ _ _ h => h) (Or.inl ⟨by rfl, ?_⟩) (by first | exact Or.inr (by assumption) | exact Or.inl (by kernel_rfl)) ?_
        rotate_left
        · ((intro w8 _; go_simp); try with_reducible rfl)
        try simp only [Act.put]
        try simp only [List.setIfInBounds_toArray]
        try simp only [List.set_cons_succ]
        try simp only [List.set_cons_zero]
        refine takeP (i := 7) (d := some 42) (v := ?_) rfl rfl (by kernel_rfl) (by kernel_rfl) (by kernel_rfl) (by kernel_rfl) (by kernel_rfl) (fun _ _ _ h => h) (Or.inl ⟨by rfl, ?_⟩) (by first | exact Or.inr (by assumption) | exact Or.inl (by kernel_rfl)) ?_
        rotate_left
        · ((intro w8 _; go_simp); try with_reducible rfl)
        try simp only [Act.put]
        try simp only [List.setIfInBounds_toArray]
        try simp only [List.set_cons_succ]
        try simp only [List.set_cons_zero]
        refine takeP (i := 8) (d := some 43) (v := ?_) rfl rfl (by kernel_rfl) (by kernel_rfl) (by kernel_rfl) (by kernel_rfl) (by kernel_rfl) (fun _ _ _ h => h) (Or.inl ⟨by rfl, ?_⟩) (by first | exact Or.inr (by assumption) | exact Or.inl (by kernel_rfl)) ?_
        rotate_left
        · ((intro w8 _; go_simp); try with_reducible rfl)
        try simp only [Act.put]
        try simp only [List.setIfInBounds_toArray]
        try simp only [List.set_cons_succ]
        try simp only [List.set_cons_zero]
        refine takeL (i := 9) (d := some 44) (v := ?_) rfl rfl (by kernel_rfl) (by kernel_rfl) (by kernel_rfl) (by kernel_rfl) (by kernel_rfl) (fun _ _ _ h => h) (Or.inl ⟨by rfl, ?_⟩) (by assumption) ?_
        rotate_left
        · ((intro w8 hSw; rw [HS5.out] at hSw; obtain ⟨y3, y4, y5, y6, y7, y8⟩ := hSw; go_simp); try with_reducible rfl)
        try simp only [Act.put]
        try simp only [List.setIfInBounds_toArray]
        try simp only [List.set_cons_succ]
        try simp only [List.set_cons_zero]
        refine takeL (i := 10) (d := some 45) (v := ?_) rfl rfl (by kernel_rfl) (by kernel_rfl) (by kernel_rfl) (by kernel_rfl) (by kernel_rfl) (fun _ _ _ h => h) (Or.inl ⟨by rfl, ?_⟩) (by assumption) ?_
        rotate_left
        · ((intro w8 hSw; rw [HS5.out] at hSw; obtain ⟨y3, y4, y5, y6, y7, y8⟩ := hSw; go_simp); try with_reducible rfl)
        try simp only [Act.put]
        try simp only [List.setIfInBounds_toArray]
        try simp only [List.set_cons_succ]
        try simp only [List.set_cons_zero]
        refine outL (i := 11) rfl (by kernel_rfl) (by kernel_rfl) (fun K8 hK8 => ?_)
        go_simp
        go_at_call 36; refine (HC.out _).mono ?_; rintro e9 w9 ⟨rfl, f9⟩
        have HF := Lib.hid ((hf.out.trans (fuw_dr wr 1)).trans f9.w)
        refine hK8 _ _ ?_
        try simp only [Act.put]
        try simp only [List.setIfInBounds_toArray]
        try simp only [List.set_cons_succ]
        try simp only [List.set_cons_zero]
        refine takeP (i := 12) (d := some 47) (v := ?_) rfl rfl (by kernel_rfl) (by kernel_rfl) (by kernel_rfl) (by kernel_rfl) (by kernel_rfl) (fun _ _ _ h => h) (Or.inl ⟨by rfl, ?_⟩) (by first | exact Or.inr (by assumption) | exact Or.inl (by kernel_rfl)) ?_
        rotate_left
        · ((intro w8 _; go_simp); try with_reducible rfl)
        try simp only [Act.put]
        try simp only [List.setIfInBounds_toArray]
        try simp only [List.set_cons_succ]
        try simp only [List.set_cons_zero]
        refine takeP (i := 13) (d := some 48) (v := ?_) rfl rfl (by kernel_rfl) (by kernel_rfl) (by kernel_rfl) (by kernel_rfl) (by kernel_rfl) (fun _ _ _ h => h) (Or.inl ⟨by rfl, ?_⟩) (by first | exact Or.inr (by assumption) | exact Or.inl (by kernel_rfl)) ?_
        rotate_left
        · ((intro w8 _; go_simp); try with_reducible rfl)
        try simp only [Act.put]
        try simp only [List.setIfInBounds_toArray]
        try simp only [List.set_cons_succ]
        try simp only [List.set_cons_zero]
        refine takeP (i := 14) (d := some 6) (v := ?_) rfl rfl (by kernel_rfl) (by kernel_rfl) (by kernel_rfl) (by kernel_rfl) (by kernel_rfl) (fun _ _ _ h => h) (Or.inl ⟨by rfl, ?_⟩) (by first | exact Or.inr (by assumption) | exact Or.inl (by kernel_rfl)) ?_
        rotate_left
        · ((intro w8 _; go_simp); try with_reducible rfl)
        try simp only [Act.put]
        try simp only [List.setIfInBounds_toArray]
        try simp only [List.set_cons_succ]
        try simp only [List.set_cons_zero]
        refine takeP (i := 15) (d := some 7) (v := ?_) rfl rfl (by kernel_rfl) (by kernel_rfl) (by kernel_rfl) (by kernel_rfl) (by kernel_rfl) (fun _ _ _ h => h) (Or.inl ⟨by rfl, ?_⟩) (by first | exact Or.inr (by assumption) | exact Or.inl (by kernel_rfl)) ?_
        rotate_left
        · ((intro w8 _; go_simp); try with_reducible rfl)
        try simp only [Act.put]
        try simp only [List.setIfInBounds_toArray]
        try simp only [List.set_cons_succ]
        try simp only [List.set_cons_zero]
        refine lst_done (by kernel_rfl) ?_ _
        go_wp2
        all_goals
          go_ret2
          exact ⟨_, _, rfl, HI.out, F0.out.trans HF.out⟩
      · have hd : decide ((i : Int) < (l.length : Int)) = false := decide_eq_false (by omega)
        have hd2 : ¬ (i : Int) < (l.length : Int) := by omega
        have hd3 : decide (i < l.length) = false := decide_eq_false hi
        go_upto_region 8 with fail
        go_quiet (fail)
        go_wp2
        go_ret2
        exact ⟨_, _, rfl, HI.out, F0.out.trans (hf.out.trans (fuw_dr _ _))⟩
end Go.Proofs.YtpjikijfendmhaaGreat
