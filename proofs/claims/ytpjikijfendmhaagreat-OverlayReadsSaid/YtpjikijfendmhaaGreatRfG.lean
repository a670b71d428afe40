
/-
  The reference of overlays: an entry put into a list in order; an overlay's entries. Nothing that was there turns.
-/
import Derived.Test.YtpjikijfendmhaaGreatRfF
import Derived.Test.YtpjikijfendmhaaGreatOvG
namespace Go.Proofs.YtpjikijfendmhaaGreat
open Go.RowKit

def wthP (l : List Aj) (a : Aj) (p : Bool) : List Aj := if p = true then wthV l a else l
/-- What the loop knows of the entries below i. -/
def PutP (l : List Aj) (a : Aj) (i : Nat) (p : Bool) : Prop := (p = true → ∃ x ∈ l.take i, adjL a x = true) ∧ (p = false → ∀ x ∈ l.take i, adjL a x = false)
theorem put_tt {l : List Aj} {a : Aj} {i : Nat} (h : i < l.length) (hp : PutP l a i true) : wthP (l.take (i + 1)) a true = wthP (l.take i) a true ++ [l[i]] ∧ PutP l a (i + 1) true := by
  rw [take_snoc l h]
  unfold PutP
  rw [take_snoc l h]
  refine ⟨wthV_put [l[i]] (hp.1 rfl), fun _ => ?_, fun e => by cases e⟩
  obtain ⟨x, hx, k⟩ := hp.1 rfl
  exact ⟨x, List.mem_append.2 (.inl hx), k⟩
theorem put_ft {l : List Aj} {a : Aj} {i : Nat} (h : i < l.length) (hp : PutP l a i false) (hq : adjL a l[i] = true) : wthP (l.take (i + 1)) a true = (wthP (l.take i) a false ++ [a]) ++ [l[i]] ∧ PutP l a (i + 1) true := by
  unfold PutP
  rw [take_snoc l h]
  refine ⟨?_, fun _ => ⟨l[i], List.mem_append.2 (.inr List.mem_cons_self), hq⟩, fun e => by cases e⟩
  show wthV (l.take i ++ [l[i]]) a = _
  rw [wthV_skip [l[i]] (hp.2 rfl), List.append_assoc]
  show l.take i ++ (if adjL a l[i] = true then a :: l[i] :: [] else _) = _
  rw [if_pos hq]; rfl
theorem put_ff {l : List Aj} {a : Aj} {i : Nat} (h : i < l.length) (hp : PutP l a i false) (hq : adjL a l[i] = false) : wthP (l.take (i + 1)) a false = wthP (l.take i) a false ++ [l[i]] ∧ PutP l a (i + 1) false := by
  unfold PutP
  rw [take_snoc l h]
  refine ⟨rfl, fun e => (by cases e), fun _ x hx => ?_⟩
  rcases List.mem_append.1 hx with k | k
  · exact hp.2 rfl x k
  · have : x = l[i] := by simpa using k
    subst this; exact hq
theorem put_end {l : List Aj} {a : Aj} (hp : PutP l a l.length false) : wthV l a = l ++ [a] := by
  have := wthV_skip (a := a) (p := l) [] (by have := hp.2 rfl; rwa [List.take_length] at this)
  rwa [List.append_nil] at this
theorem wthP_len {l : List Aj} {a : Aj} (p : Bool) : (wthP l a p).length ≤ l.length + 1 := by
  unfold wthP
  by_cases h : p = true
  · rw [if_pos h, (wthV_perm a l).length_eq]; exact Nat.le_refl _
  · rw [if_neg h]; exact Nat.le_succ _
set_option maxHeartbeats 12800000 in
set_option maxRecDepth 100000 in
theorem rwithin_any (l : List Aj) (ao : Option Addr) (cap : Nat) (a : Aj) (w : World) (hs : SlJ w ao l cap) (hl : l.length ≤ 100000) :
    Calls Tryz.prog 56 #[.slice ao l.length cap, adv a] w (RetJ w (wthV l a)) := by
  obtain ⟨a0, a1, a2⟩ := a
  obtain ⟨w0, hw0⟩ : ∃ w0, w.alloc (.cells #[.int .i64 a0, .int .i64 a1, .int .i64 a2] 42) = w0 := ⟨_, rfl⟩
  have F0 := Lib.hid (show Fuw w w0 by rw [← hw0]; exact fuwA _ _)
  obtain ⟨B3, hB3⟩ : ∃ B3, B3 = w.heap.size := ⟨_, rfl⟩
  have BA := Lib.hid (show Bk w0 B3 #[.int .i64 a0, .int .i64 a1, .int .i64 a2] 42 by rw [hB3, ← hw0]; exact Bk.new _ _ _)
  have HS := Lib.hid (slJ_on F0.out hs)
  obtain ⟨i0, hi0, hz0, hz1, hz2⟩ := info_parts infoJ
  unfold adv
  clear hs
  go_enter Tryz.func56, Tryz.ntmps56
  go_upto_region 1 with fail
  rw [← hB3]
  clear hw0 hB3
  go_wp2
  go_loopw [5, 6, 7] (fun lv pv iv wr => ∃ (i : Nat) (p : Bool), iv = .int .i64 i ∧ pv = .bool p ∧ i ≤ l.length ∧ Hid (OwnJ w0 wr lv (wthP (l.take i) (a0, a1, a2) p)) ∧ Hid (PutP l (a0, a1, a2) i p) ∧ Hid (Fuw w0 wr)) (fun _ _ iv _ => l.length - (RowKit.intOf iv).toNat)
  case atStart => exact ⟨0, false, rfl, rfl, Nat.zero_le _, Lib.hid (World.ownsRow_nil _ _ _ _), Lib.hid ⟨fun e => (by cases e), fun _ x hx => absurd hx (by simp)⟩, Lib.hid (Fuw.refl _)⟩
  case round =>
    obtain ⟨i, p, rfl, rfl, hi, HO, HP, hf⟩ := hrel
    have k0 := (BA.out.on hf.out).c 0; have k1 := (BA.out.on hf.out).c 1; have k2 := (BA.out.on hf.out).c 2
    simp only [List.getElem?_toArray, List.getElem?_cons_zero, List.getElem?_cons_succ] at k0 k1 k2
    have hLl := Lib.hid (wthP_len (l := l.take i) (a := (a0, a1, a2)) p)
    by_cases hlt : i < l.length
    · obtain ⟨b, o, rfl, -, -, -, c0, c1, c2⟩ := (slJ_on hf.out HS.out).get hlt
      have z1 : (i : Int) < (l.length : Int) := by omega
      have HLt := Lib.hid (show (l.take i).length ≤ 100000 by rw [List.length_take]; omega)
      cases p with
      | true =>
        have HTP := put_tt hlt HP.out
        have HT := Lib.hid HTP.1
        have HPp := Lib.hid HTP.2
        generalize l[i] = x at *
        obtain ⟨x0, x1, x2⟩ := x
        simp only at c0 c1 c2 HT
        have HL2 := Lib.hid (show (wthP (l.take i) (a0, a1, a2) true).length ≤ 1000000 by have := hLl.out; have := HLt.out; omega)
        generalize wthP (l.take i) (a0, a1, a2) true = L2 at *
        clear HTP
        go_upto_region 6 with fail
        go_quiet (fail)
        obtain ⟨V, hV⟩ : ∃ V, wr.drewN nq = V := ⟨_, rfl⟩
        have FV0 := Lib.hid (show Fuw wr V by rw [← hV]; exact fuw_dr wr nq)
        have FV := Lib.hid (hf.out.trans FV0.out)
        have HO2 := Lib.hid (own_on HO.out FV0.out)
        replace c0 := cellOnw FV0.out c0; replace c1 := cellOnw FV0.out c1; replace c2 := cellOnw FV0.out c2
        rw [hV]
        clear hV k0 k1 k2
        have hl2 : L2.length ≤ 1000000 := HL2.out
        go_wp2_with (at_builtin; refine wpList_append_own_at _ rfl (.tmp 28) (.tmp 33) 25 rfl w0.heap.size 42 i0 (.agg #[.int .i64 0, .int .i64 0, .int .i64 0]) 3 24 Tryz.underlying25 hi0 hz0 hz1 hz2 rfl (by decide) _ L2.length (aC L2) rfl (own_on HO2.out (fuwA _ _)) ⟨V.heap.size, 0, none⟩ 1 1 (aE (x0, x1, x2)) rfl rfl (World.news_of_block (heap_alloc_new V _)) (one_adj _) (by unfold maxLen; omega) (by omega) (Nat.le_trans FV.out.size (by simp)) ?_; intro v9 w7 hown5 hgrow _ _)
        have HG := Lib.hid (fuw_grown (FV.out.trans (fuwA _ _)) (own_on HO2.out (fuwA _ _)) hgrow)
        have HO3 := Lib.hid (show OwnJ w0 w7 v9 (wthP (l.take (i + 1)) (a0, a1, a2) true) from by
          unfold OwnJ
          rw [HT.out, aC_app, List.length_append]; exact hown5)
        clear hown5 hgrow c0 c1 c2
        go_wp2
        go_roundw
        case rel => exact ⟨i + 1, true, by go_num, rfl, by omega, HO3, HPp, HG⟩
        case measure => simp [RowKit.intOf]; omega
      | false =>
        have HC := Lib.hid (fun w' => less_any (a0, a1, a2) l[i] w')
        have HPt := Lib.hid (fun h => put_ft hlt HP.out h)
        have HPf := Lib.hid (fun h => put_ff hlt HP.out h)
        obtain ⟨x, hx⟩ : ∃ x, l[i] = x := ⟨_, rfl⟩
        rw [hx] at c0 c1 c2 HC HPt HPf
        have HX := Lib.hid hx
        clear hx
        obtain ⟨x0, x1, x2⟩ := x
        simp only at c0 c1 c2 HC HPt HPf
        unfold adv at HC
        obtain ⟨q, hq⟩ : ∃ q, adjL (a0, a1, a2) (x0, x1, x2) = q := ⟨_, rfl⟩
        rw [hq] at HC HPt HPf
        have HL1 := Lib.hid (show (wthP (l.take i) (a0, a1, a2) false).length ≤ 100001 by have := hLl.out; have := HLt.out; omega)
        generalize wthP (l.take i) (a0, a1, a2) false = L1 at *
        clear hq
        go_upto_region 6 with fail
        obtain ⟨S, hS⟩ : ∃ S : World → Prop, S = (fun w8 => w8.cell? ⟨B3, 0, none⟩ = some (.int .i64 a0) ∧ w8.cell? ⟨B3, 1, none⟩ = some (.int .i64 a1) ∧ w8.cell? ⟨B3, 2, none⟩ = some (.int .i64 a2) ∧ w8.cell? ⟨b, o + i * 3, none⟩ = some (.int .i64 x0) ∧ w8.cell? ⟨b, o + i * 3 + 1, none⟩ = some (.int .i64 x1) ∧ w8.cell? ⟨b, o + i * 3 + 2, none⟩ = some (.int .i64 x2)) := ⟨_, rfl⟩
        have HS4 := Lib.hid hS
        clear hS
        refine lst_start [8] S (by kernel_rfl) ?_
        have hS0 : S wr.drew := by rw [HS4.out]; exact ⟨k0, k1, k2, c0, c1, c2⟩
        refine takeP (i := 0) (d := some 14) (v := ?_) rfl rfl (by kernel_rfl) (by kernel_rfl) (by kernel_rfl) (by kernel_rfl) (by kernel_rfl) (fun _ _ _ h => h) (Or.inl ⟨by rfl, ?_⟩) (by first | exact Or.inr (by assumption) | exact Or.inl (by kernel_rfl)) ?_
        rotate_left
        · ((intro w8 _; go_simp); try with_reducible rfl)
        try simp only [Act.put]
        try simp only [List.setIfInBounds_toArray]
        try simp only [List.set_cons_succ]
        try simp only [List.set_cons_zero]
        refine takeP (i := 1) (d := some 15) (v := ?_) rfl rfl (by kernel_rfl) (by kernel_rfl) (by kernel_rfl) (by kernel_rfl) (by kernel_rfl) (fun _ _ _ h => h) (Or.inl ⟨by rfl, ?_⟩) (by first | exact Or.inr (by assumption) | exact Or.inl (by kernel_rfl)) ?_
        rotate_left
        · ((intro w8 _; go_simp); try with_reducible rfl)
        try simp only [Act.put]
        try simp only [List.setIfInBounds_toArray]
        try simp only [List.set_cons_succ]
        try simp only [List.set_cons_zero]
        refine takeP (i := 2) (d := some 16) (v := ?_) rfl rfl (by kernel_rfl) (by kernel_rfl) (by kernel_rfl) (by kernel_rfl) (by kernel_rfl) (fun _ _ _ h => h) (Or.inl ⟨by rfl, ?_⟩) (by first | exact Or.inr (by assumption) | exact Or.inl (by kernel_rfl)) ?_
        rotate_left
        · ((intro w8 _; go_simp); try with_reducible rfl)
        try simp only [Act.put]
        try simp only [List.setIfInBounds_toArray]
        try simp only [List.set_cons_succ]
        try simp only [List.set_cons_zero]
        refine takeL (i := 3) (d := some 17) (v := ?_) rfl rfl (by kernel_rfl) (by kernel_rfl) (by kernel_rfl) (by kernel_rfl) (by kernel_rfl) (fun _ _ _ h => h) (Or.inl ⟨by rfl, ?_⟩) (by assumption) ?_
        rotate_left
        · ((intro w8 hSw; rw [HS4.out] at hSw; obtain ⟨y1, y2, y3, y4, y5, y6⟩ := hSw; go_simp); try with_reducible rfl)
        try simp only [Act.put]
        try simp only [List.setIfInBounds_toArray]
        try simp only [List.set_cons_succ]
        try simp only [List.set_cons_zero]
        refine takeP (i := 4) (d := some 18) (v := ?_) rfl rfl (by kernel_rfl) (by kernel_rfl) (by kernel_rfl) (by kernel_rfl) (by kernel_rfl) (fun _ _ _ h => h) (Or.inl ⟨by rfl, ?_⟩) (by first | exact Or.inr (by assumption) | exact Or.inl (by kernel_rfl)) ?_
        rotate_left
        · ((intro w8 _; go_simp); try with_reducible rfl)
        try simp only [Act.put]
        try simp only [List.setIfInBounds_toArray]
        try simp only [List.set_cons_succ]
        try simp only [List.set_cons_zero]
        refine takeP (i := 5) (d := some 19) (v := ?_) rfl rfl (by kernel_rfl) (by kernel_rfl) (by kernel_rfl) (by kernel_rfl) (by kernel_rfl) (fun _ _ _ h => h) (Or.inl ⟨by rfl, ?_⟩) (by first | exact Or.inr (by assumption) | exact Or.inl (by kernel_rfl)) ?_
        rotate_left
        · ((intro w8 _; go_simp); try with_reducible rfl)
        try simp only [Act.put]
        try simp only [List.setIfInBounds_toArray]
        try simp only [List.set_cons_succ]
        try simp only [List.set_cons_zero]
        refine takeP (i := 6) (d := some 20) (v := ?_) rfl rfl (by kernel_rfl) (by kernel_rfl) (by kernel_rfl) (by kernel_rfl) (by kernel_rfl) (fun _ _ _ h => h) (Or.inl ⟨by rfl, ?_⟩) (by first | exact Or.inr (by assumption) | exact Or.inl (by kernel_rfl)) ?_
        rotate_left
        · ((intro w8 _; go_simp); try with_reducible rfl)
        try simp only [Act.put]
        try simp only [List.setIfInBounds_toArray]
        try simp only [List.set_cons_succ]
        try simp only [List.set_cons_zero]
        refine takeL (i := 7) (d := some 21) (v := ?_) rfl rfl (by kernel_rfl) (by kernel_rfl) (by kernel_rfl) (by kernel_rfl) (by kernel_rfl) (fun _ _ _ h => h) (Or.inl ⟨by rfl, ?_⟩) (by assumption) ?_
        rotate_left
        · ((intro w8 hSw; rw [HS4.out] at hSw; obtain ⟨y1, y2, y3, y4, y5, y6⟩ := hSw; go_simp); try with_reducible rfl)
        try simp only [Act.put]
        try simp only [List.setIfInBounds_toArray]
        try simp only [List.set_cons_succ]
        try simp only [List.set_cons_zero]
        refine outL (i := 8) rfl (by kernel_rfl) (by kernel_rfl) (fun K8 hK8 => ?_)
        go_simp
        go_at_call 43; refine (HC.out _).mono ?_; rintro e9 w9 ⟨rfl, f9⟩
        have F9 := Lib.hid ((fuw_dr wr 1).trans f9)
        refine hK8 _ _ ?_
        try simp only [Act.put]
        try simp only [List.setIfInBounds_toArray]
        try simp only [List.set_cons_succ]
        try simp only [List.set_cons_zero]
        refine takeP (i := 9) (d := some 23) (v := ?_) rfl rfl (by kernel_rfl) (by kernel_rfl) (by kernel_rfl) (by kernel_rfl) (by kernel_rfl) (fun _ _ _ h => h) (Or.inl ⟨by rfl, ?_⟩) (by first | exact Or.inr (by assumption) | exact Or.inl (by kernel_rfl)) ?_
        rotate_left
        · ((intro w8 _; go_simp); try with_reducible rfl)
        try simp only [Act.put]
        try simp only [List.setIfInBounds_toArray]
        try simp only [List.set_cons_succ]
        try simp only [List.set_cons_zero]
        refine lst_done (by kernel_rfl) ?_ _
        have FV := Lib.hid (hf.out.trans F9.out)
        have HO1 := Lib.hid (own_on HO.out F9.out)
        replace c0 := cellOnw F9.out c0; replace c1 := cellOnw F9.out c1; replace c2 := cellOnw F9.out c2
        replace k0 := cellOnw F9.out k0; replace k1 := cellOnw F9.out k1; replace k2 := cellOnw F9.out k2
        cases q with
        | true =>
          have HTP := HPt.out rfl
          have HT := Lib.hid HTP.1
          have HPp := Lib.hid HTP.2
          have hl1 : L1.length ≤ 100001 := HL1.out
          clear HTP
          go_upto_region 9 with (at_builtin; refine wpList_append_own_at _ rfl (.tmp 24) (.tmp 26) 25 rfl w0.heap.size 42 i0 (.agg #[.int .i64 0, .int .i64 0, .int .i64 0]) 3 24 Tryz.underlying25 hi0 hz0 hz1 hz2 rfl (by decide) _ L1.length (aC L1) rfl (own_on HO1.out (fuwA _ _)) ⟨w9.heap.size, 0, none⟩ 1 1 (aE (a0, a1, a2)) rfl rfl (World.news_of_block (heap_alloc_new w9 _)) (one_adj _) (by unfold maxLen; omega) (by omega) (Nat.le_trans FV.out.size (by simp)) ?_; intro v8 w6 hown5 hgrow _ _)
          have FV6 := Lib.hid (fuw_grown (FV.out.trans (fuwA _ _)) (own_on HO1.out (fuwA _ _)) hgrow)
          have HO2 := Lib.hid (show OwnJ w0 w6 v8 (L1 ++ [(a0, a1, a2)]) from by
            unfold OwnJ
            rw [aC_app, List.length_append]; exact hown5)
          have HL2 := Lib.hid (show (L1 ++ [(a0, a1, a2)]).length ≤ 1000000 by rw [List.length_append]; simp; omega)
          generalize L1 ++ [(a0, a1, a2)] = L2 at *
          clear hown5 hgrow c0 c1 c2 k0 k1 k2 FV
          have FV := FV6
          obtain ⟨b', o', e', hg⟩ := (slJ_on FV.out HS.out).get hlt
          cases e'
          rw [HX.out] at hg
          obtain ⟨-, -, -, c0, c1, c2⟩ := hg
          simp only at c0 c1 c2
          have hl2 : L2.length ≤ 1000000 := HL2.out
          go_wp2_with (at_builtin; refine wpList_append_own_at _ rfl (.tmp 28) (.tmp 33) 25 rfl w0.heap.size 42 i0 (.agg #[.int .i64 0, .int .i64 0, .int .i64 0]) 3 24 Tryz.underlying25 hi0 hz0 hz1 hz2 rfl (by decide) _ L2.length (aC L2) rfl (own_on HO2.out (fuwA _ _)) ⟨w6.heap.size, 0, none⟩ 1 1 (aE (x0, x1, x2)) rfl rfl (World.news_of_block (heap_alloc_new w6 _)) (one_adj _) (by unfold maxLen; omega) (by omega) (Nat.le_trans FV.out.size (by simp)) ?_; intro v9 w7 hown5 hgrow _ _)
          have HG := Lib.hid (fuw_grown (FV.out.trans (fuwA _ _)) (own_on HO2.out (fuwA _ _)) hgrow)
          have HO3 := Lib.hid (show OwnJ w0 w7 v9 (wthP (l.take (i + 1)) (a0, a1, a2) true) from by
            unfold OwnJ
            rw [HT.out, aC_app, List.length_append]; exact hown5)
          clear hown5 hgrow c0 c1 c2
          go_wp2
          go_roundw
          case rel => exact ⟨i + 1, true, by go_num, rfl, by omega, HO3, HPp, HG⟩
          case measure => simp [RowKit.intOf]; omega
        | false =>
          have HTP := HPf.out rfl
          have HT := Lib.hid HTP.1
          have HPp := Lib.hid HTP.2
          have HL1 := Lib.hid (show L1.length ≤ 1000000 by have := HL1.out; omega)
          have HO2 := HO1
          clear HTP k0 k1 k2
          have hl2 : L1.length ≤ 1000000 := HL1.out
          go_wp2_with (at_builtin; refine wpList_append_own_at _ rfl (.tmp 28) (.tmp 33) 25 rfl w0.heap.size 42 i0 (.agg #[.int .i64 0, .int .i64 0, .int .i64 0]) 3 24 Tryz.underlying25 hi0 hz0 hz1 hz2 rfl (by decide) _ L1.length (aC L1) rfl (own_on HO2.out (fuwA _ _)) ⟨w9.heap.size, 0, none⟩ 1 1 (aE (x0, x1, x2)) rfl rfl (World.news_of_block (heap_alloc_new w9 _)) (one_adj _) (by unfold maxLen; omega) (by omega) (Nat.le_trans FV.out.size (by simp)) ?_; intro v9 w7 hown5 hgrow _ _)
          have HG := Lib.hid (fuw_grown (FV.out.trans (fuwA _ _)) (own_on HO2.out (fuwA _ _)) hgrow)
          have HO3 := Lib.hid (show OwnJ w0 w7 v9 (wthP (l.take (i + 1)) (a0, a1, a2) false) from by
            unfold OwnJ
            rw [HT.out, aC_app, List.length_append]; exact hown5)
          clear hown5 hgrow c0 c1 c2
          go_wp2
          go_roundw
          case rel => exact ⟨i + 1, false, by go_num, rfl, by omega, HO3, HPp, HG⟩
          case measure => simp [RowKit.intOf]; omega
    · have hge : ¬ (i : Int) < (l.length : Int) := by omega
      have e : i = l.length := by omega
      have HLt := Lib.hid (show (l.take i).length ≤ 100000 by rw [List.length_take]; omega)
      cases p with
      | true =>
        have HR := Lib.hid (show wthP (l.take i) (a0, a1, a2) true = wthV l (a0, a1, a2) by rw [e, List.take_length]; rfl)
        clear e
        go_wp2
        go_ret
        exact ⟨_, rfl, by rw [← HR.out]; exact own_le (own_on HO.out (Fuw.refl _)) F0.out.size, F0.out.trans hf.out⟩
      | false =>
        have HR := Lib.hid (show wthP (l.take i) (a0, a1, a2) false ++ [(a0, a1, a2)] = wthV l (a0, a1, a2) by
          rw [e] at HP ⊢
          rw [put_end HP.out, List.take_length]; rfl)
        have hl1 : (wthP (l.take i) (a0, a1, a2) false).length ≤ 100001 := by have := hLl.out; have := HLt.out; omega
        generalize wthP (l.take i) (a0, a1, a2) false = L1 at *
        clear e
        go_wp2_with (at_builtin; refine wpList_append_own_at _ rfl (.tmp 37) (.tmp 39) 25 rfl w0.heap.size 42 i0 (.agg #[.int .i64 0, .int .i64 0, .int .i64 0]) 3 24 Tryz.underlying25 hi0 hz0 hz1 hz2 rfl (by decide) _ L1.length (aC L1) rfl (own_on HO.out (fuwA _ _)) ⟨wr.heap.size, 0, none⟩ 1 1 (aE (a0, a1, a2)) rfl rfl (World.news_of_block (heap_alloc_new wr _)) (one_adj _) (by unfold maxLen; omega) (by omega) (Nat.le_trans hf.out.size (by simp)) ?_; intro v9 w7 hown5 hgrow _ _)
        have HG := Lib.hid (fuw_grown (hf.out.trans (fuwA _ _)) (own_on HO.out (fuwA _ _)) hgrow)
        have HO3 := Lib.hid (show OwnJ w0 w7 v9 (wthV l (a0, a1, a2)) from by
          unfold OwnJ
          rw [← HR.out, aC_app, List.length_append]; exact hown5)
        clear hown5 hgrow k0 k1 k2
        go_wp2
        go_ret
        exact ⟨_, rfl, own_le (own_on HO3.out (Fuw.refl _)) F0.out.size, F0.out.trans HG.out⟩
end Go.Proofs.YtpjikijfendmhaaGreat
