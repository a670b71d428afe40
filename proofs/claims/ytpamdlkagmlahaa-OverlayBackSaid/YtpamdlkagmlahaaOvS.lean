
/-
  The law's more: whether a list is another with one entry put in, and increasing. Nothing that was there turns.
-/
import Derived.Test.YtpamdlkagmlahaaOvR
import Derived.BigQuiet
namespace Go.Proofs.Ytpamdlkagmlahaa
open Go.RowKit

/-- What the law asks of two increasing lists, the first the second with an entry put in. -/
structure More (l m : List Aj) (x : Aj) : Prop where
  i : l.Pairwise fun a b => adjL a b = true
  f : m = l.filter fun y => !eqJ y x
  n : l.length = m.length + 1
theorem more_of {l m : List Aj} {x : Aj} (hl : l.Pairwise fun a b => adjL a b = true) (hm : m.Pairwise fun a b => adjL a b = true) (hp : l.Perm (x :: m)) : More l m x := by
  refine ⟨hl, ?_, by rw [hp.length_eq]; rfl⟩
  have hw : ∀ {s : List Aj}, (s.Pairwise fun a b => adjL a b = true) → s.Pairwise fun a b => adjL b a = false := fun h => h.imp fun h => adjL_asym h
  have hnd : (x :: m).Nodup := by
    rw [← hp.nodup_iff]
    exact hl.imp fun {a b} h e => by subst e; rw [adjL_irr] at h; cases h
  have hx : x ∉ m := (List.nodup_cons.1 hnd).1
  have e1 : (x :: m).filter (fun y => !eqJ y x) = m := by
    rw [List.filter_cons_of_neg (by simp [(eqJ_iff x x).2 rfl]), List.filter_eq_self]
    intro y hy
    rw [Bool.not_eq_true', Bool.eq_false_iff]
    intro h
    rw [(eqJ_iff y x).1 h] at hy
    exact hx hy
  have e2 : (l.filter fun y => !eqJ y x).Perm m := by have := hp.filter (fun y => !eqJ y x); rwa [e1] at this
  rw [srtJ_uniq e2 (hw (hl.filter _)), ← srtJ_uniq (List.Perm.refl _) (hw hm)]
def cntX (l : List Aj) (x : Aj) (i : Nat) : Nat := ((l.take i).filter fun y => !eqJ y x).length
theorem cntX_t {l : List Aj} {x : Aj} {i : Nat} (h : i < l.length) (hq : eqJ l[i] x = true) : cntX l x (i + 1) = cntX l x i := by
  unfold cntX
  rw [List.take_succ_eq_append_getElem h, List.filter_append, List.filter_cons_of_neg (by simp [hq])]
  simp
theorem cntX_f {l : List Aj} {x : Aj} {i : Nat} (h : i < l.length) (hq : eqJ l[i] x = false) : cntX l x (i + 1) = cntX l x i + 1 := by
  unfold cntX
  rw [List.take_succ_eq_append_getElem h, List.filter_append, List.filter_cons_of_pos (by simp [hq])]
  simp
theorem cntX_at {l m : List Aj} {x : Aj} {i : Nat} (h : i < l.length) (hm : m = l.filter fun y => !eqJ y x) (hq : eqJ l[i] x = false) : ∃ k : cntX l x i < m.length, m[cntX l x i] = l[i] := by
  have e : m = ((l.take i).filter fun y => !eqJ y x) ++ l[i] :: ((l.drop (i + 1)).filter fun y => !eqJ y x) := by
    rw [hm]
    conv => lhs; rw [← List.take_append_drop i l, List.filter_append, List.drop_eq_getElem_cons h, List.filter_cons_of_pos (by simp [hq])]
  subst e
  unfold cntX
  exact ⟨by simp, by simp⟩
theorem cntX_end {l m : List Aj} {x : Aj} (hm : m = l.filter fun y => !eqJ y x) : cntX l x l.length = m.length := by
  unfold cntX
  rw [List.take_length, hm]
set_option maxHeartbeats 6400000 in
set_option maxRecDepth 100000 in
theorem more_any (l m : List Aj) (a1 a2 : Option Addr) (k1 k2 : Nat) (x : Aj) (w : World) (hs : SlJ w a1 l k1) (hm : SlJ w a2 m k2) (hmo : More l m x) (hlen : l.length ≤ 1000000) :
    Calls Try.prog 11 #[.slice a1 l.length k1, .slice a2 m.length k2, adv x] w (FwB w true) := by
  obtain ⟨x0, x1, x2⟩ := x
  obtain ⟨w0, hw0⟩ : ∃ w0, w.alloc (.cells #[.int .i64 x0, .int .i64 x1, .int .i64 x2] 29) = w0 := ⟨_, rfl⟩
  have B0 := Lib.hid (show Bk w0 w.heap.size #[.int .i64 x0, .int .i64 x1, .int .i64 x2] 29 by rw [← hw0]; exact Bk.new _ _ _)
  have F0 := Lib.hid (show Fuw w w0 by rw [← hw0]; exact fuwA _ _)
  have HS := Lib.hid (slJ_on F0.out hs)
  have HM := Lib.hid (slJ_on F0.out hm)
  have HMo := Lib.hid hmo
  have hll := hmo.n
  unfold adv
  clear hs hm hmo
  have hw1 : IntKind.i64.wrap ((m.length : Int) + 1) = (m.length : Int) + 1 := IntWalk.i64_in _ (by omega)
  have hw2 : (l.length : Int) = (m.length : Int) + 1 := by omega
  go_enter Try.func11, Try.ntmps11
  go_upto_region 1 with fail
  clear hw0
  go_wp2
  have HLL := Lib.hid hll
  clear hw1 hw2 hll
  go_loopw [7, 8] (fun kv iv wr => ∃ (i : Nat) (iz kz : Int), iv = .int .i64 iz ∧ kv = .int .i64 kz ∧ iz = i ∧ kz = (cntX l (x0, x1, x2) i : Nat) ∧ i ≤ l.length ∧ Hid (Fuw w0 wr)) (fun _ iv _ => l.length - (RowKit.intOf iv).toNat)
  case atStart => exact ⟨0, 0, 0, rfl, rfl, rfl, by simp [cntX], Nat.zero_le _, Lib.hid (Fuw.refl _)⟩
  case round =>
    obtain ⟨i, iz, kz, rfl, rfl, hiz, hkz, hi, hf⟩ := hrel
    have HIZ := Lib.hid hiz
    have HKZ := Lib.hid hkz
    by_cases hlt : i < l.length
    · have z0 : (0 : Int) ≤ iz := by omega
      have z1 : iz < (l.length : Int) := by omega
      have z2 : iz.toNat = i := by omega
      clear hiz hkz
      by_cases hi0 : i = 0
      · have hg : ¬ (0 : Int) < iz := by have := HIZ.out; omega
        go_upto_region 7 with fail
        go_quiet (fail)
        have HF := Lib.hid (show Fuw w0 (wr.drewN nq) from hf.out.trans (fuw_dr wr nq))
        generalize hwr : wr.drewN nq = wt at *
        clear hi0
        clear hg hwr
        have HC9 := Lib.hid ((slJ_on HF.out HS.out).get hlt)
        obtain ⟨b, o, hb, -, -, -, c0, c1, c2⟩ := HC9.out
        first | subst hb | cases hb
        have d0 := (B0.out.on HF.out).c 0; have d1 := (B0.out.on HF.out).c 1; have d2 := (B0.out.on HF.out).c 2
        simp only [List.getElem?_toArray, List.getElem?_cons_zero, List.getElem?_cons_succ] at d0 d1 d2
        have heq := fun w' => eql_adj l[i] (x0, x1, x2) w'
        have hgd := fun (op : BinOp) (p q : Operand) (xs ys : Array Value) (w' : World) => run_eqGuard_agg w' op 29 p q xs ys guard_adj
        obtain ⟨q, hq⟩ : ∃ q, eqJ l[i] (x0, x1, x2) = q := ⟨_, rfl⟩
        simp only [hq] at heq
        have HQ2 := Lib.hid hq
        clear hq
        generalize hl0 : l[i].1 = l0 at *
        generalize hl1 : l[i].2.1 = l1 at *
        generalize hl2 : l[i].2.2 = l2 at *
        have HF2 := Lib.hid HF.out.drew
        cases q with
        | true =>
          have HZ := Lib.hid (cntX_t hlt HQ2.out)
          clear hl0 hl1 hl2
          go_upto_region 9 with fail
          go_region
          go_wp2
          go_roundw
          case rel => exact ⟨i + 1, iz + 1, kz, by go_num, rfl, by have := HIZ.out; omega, by rw [HZ.out]; exact HKZ.out, by omega, HF2⟩
          case measure => have := HIZ.out; simp [RowKit.intOf]; omega
        | false =>
          have HZ := Lib.hid (cntX_f hlt HQ2.out)
          obtain ⟨hk, hmk⟩ := cntX_at hlt HMo.out.f HQ2.out
          go_upto_region 9 with fail
          go_region
          clear c0 c1 c2 d0 d1 d2 heq
          obtain ⟨b, o, hb, -, -, -, c0, c1, c2⟩ := (slJ_on HF2.out HS.out).get hlt
          cases hb
          obtain ⟨b', o', hb', -, -, -, d0, d1, d2⟩ := (slJ_on HF2.out HM.out).get hk
          subst hb'
          rw [hmk] at d0 d1 d2
          rw [hl0] at c0 d0
          rw [hl1] at c1 d1
          rw [hl2] at c2 d2
          have heq := fun w' => neq_adj (l0, l1, l2) (l0, l1, l2) w'
          rw [(eqJ_iff (l0, l1, l2) (l0, l1, l2)).2 rfl] at heq
          clear hl0 hl1 hl2 hmk
          have y0 : (0 : Int) ≤ kz := by have := HKZ.out; omega
          have y1 : kz < (m.length : Int) := by have := HKZ.out; omega
          have y2 : kz.toNat = cntX l (x0, x1, x2) i := by have := HKZ.out; omega
          have y3 : ¬ (m.length : Int) ≤ kz := by omega
          have HY := Lib.hid (show (kz + 1 : Int) = (cntX l (x0, x1, x2) (i + 1) : Nat) by rw [HZ.out]; have := HKZ.out; omega)
          clear HZ
          generalize cntX l (x0, x1, x2) i = ck at *
          have HF3 := Lib.hid HF2.out.drew
          go_upto_region 10 with fail
          obtain ⟨S, hS⟩ : ∃ S : World → Prop, S = (fun w8 => w8.cell? ⟨b, o + i * 3, none⟩ = some (.int .i64 l0) ∧ w8.cell? ⟨b, o + i * 3 + 1, none⟩ = some (.int .i64 l1) ∧ w8.cell? ⟨b, o + i * 3 + 2, none⟩ = some (.int .i64 l2) ∧ w8.cell? ⟨b', o' + ck * 3, none⟩ = some (.int .i64 l0) ∧ w8.cell? ⟨b', o' + ck * 3 + 1, none⟩ = some (.int .i64 l1) ∧ w8.cell? ⟨b', o' + ck * 3 + 2, none⟩ = some (.int .i64 l2)) := ⟨_, rfl⟩
          have HS5 := Lib.hid hS
          clear hS
          refine lst_start [14] S (by kernel_rfl) ?_
          have hS0 : S wt.drew.drew := by rw [HS5.out]; exact ⟨c0, c1, c2, d0, d1, d2⟩
          refine takeP (i := 0) (d := some 42) (v := ?_) rfl rfl (by kernel_rfl) (by kernel_rfl) (by kernel_rfl) (by kernel_rfl) (by kernel_rfl) (fun _ _ _ h => h) (Or.inl ⟨by rfl, ?_⟩) (by first | exact Or.inr (by assumption) | exact Or.inl (by kernel_rfl)) ?_
          rotate_left
          · ((intro w8 _; go_simp); try with_reducible rfl)
          try simp only [Act.put]
          try simp only [List.setIfInBounds_toArray]
          try simp only [List.set_cons_succ]
          try simp only [List.set_cons_zero]
          refine takeP (i := 1) (d := some 43) (v := ?_) rfl rfl (by kernel_rfl) (by kernel_rfl) (by kernel_rfl) (by kernel_rfl) (by kernel_rfl) (fun _ _ _ h => h) (Or.inl ⟨by rfl, ?_⟩) (by first | exact Or.inr (by assumption) | exact Or.inl (by kernel_rfl)) ?_
          rotate_left
          · ((intro w8 _; go_simp); try with_reducible rfl)
          try simp only [Act.put]
          try simp only [List.setIfInBounds_toArray]
          try simp only [List.set_cons_succ]
          try simp only [List.set_cons_zero]
          refine takeP (i := 2) (d := some 44) (v := ?_) rfl rfl (by kernel_rfl) (by kernel_rfl) (by kernel_rfl) (by kernel_rfl) (by kernel_rfl) (fun _ _ _ h => h) (Or.inl ⟨by rfl, ?_⟩) (by first | exact Or.inr (by assumption) | exact Or.inl (by kernel_rfl)) ?_
          rotate_left
          · ((intro w8 _; go_simp); try with_reducible rfl)
          try simp only [Act.put]
          try simp only [List.setIfInBounds_toArray]
          try simp only [List.set_cons_succ]
          try simp only [List.set_cons_zero]
          refine takeP (i := 3) (d := some 45) (v := ?_) rfl rfl (by kernel_rfl) (by kernel_rfl) (by kernel_rfl) (by kernel_rfl) (by kernel_rfl) (fun _ _ _ h => h) (Or.inl ⟨by rfl, ?_⟩) (by first | exact Or.inr (by assumption) | exact Or.inl (by kernel_rfl)) ?_
          rotate_left
          · ((intro w8 _; go_simp); try with_reducible rfl)
          try simp only [Act.put]
          try simp only [List.setIfInBounds_toArray]
          try simp only [List.set_cons_succ]
          try simp only [List.set_cons_zero]
          refine takeP (i := 4) (d := some 46) (v := ?_) rfl rfl (by kernel_rfl) (by kernel_rfl) (by kernel_rfl) (by kernel_rfl) (by kernel_rfl) (fun _ _ _ h => h) (Or.inl ⟨by rfl, ?_⟩) (by first | exact Or.inr (by assumption) | exact Or.inl (by kernel_rfl)) ?_
          rotate_left
          · ((intro w8 _; go_simp); try with_reducible rfl)
          try simp only [Act.put]
          try simp only [List.setIfInBounds_toArray]
          try simp only [List.set_cons_succ]
          try simp only [List.set_cons_zero]
          refine takeP (i := 5) (d := some 47) (v := ?_) rfl rfl (by kernel_rfl) (by kernel_rfl) (by kernel_rfl) (by kernel_rfl) (by kernel_rfl) (fun _ _ _ h => h) (Or.inl ⟨by rfl, ?_⟩) (by first | exact Or.inr (by assumption) | exact Or.inl (by kernel_rfl)) ?_
          rotate_left
          · ((intro w8 _; go_simp); try with_reducible rfl)
          try simp only [Act.put]
          try simp only [List.setIfInBounds_toArray]
          try simp only [List.set_cons_succ]
          try simp only [List.set_cons_zero]
          refine takeP (i := 6) (d := some 48) (v := ?_) rfl rfl (by kernel_rfl) (by kernel_rfl) (by kernel_rfl) (by kernel_rfl) (by kernel_rfl) (fun _ _ _ h => h) (Or.inl ⟨by rfl, ?_⟩) (by first | exact Or.inr (by assumption) | exact Or.inl (by kernel_rfl)) ?_
          rotate_left
          · ((intro w8 _; go_simp); try with_reducible rfl)
          try simp only [Act.put]
          try simp only [List.setIfInBounds_toArray]
          try simp only [List.set_cons_succ]
          try simp only [List.set_cons_zero]
          refine takeP (i := 7) (d := some 49) (v := ?_) rfl rfl (by kernel_rfl) (by kernel_rfl) (by kernel_rfl) (by kernel_rfl) (by kernel_rfl) (fun _ _ _ h => h) (Or.inl ⟨by rfl, ?_⟩) (by first | exact Or.inr (by assumption) | exact Or.inl (by kernel_rfl)) ?_
          rotate_left
          · ((intro w8 _; go_simp); try with_reducible rfl)
          try simp only [Act.put]
          try simp only [List.setIfInBounds_toArray]
          try simp only [List.set_cons_succ]
          try simp only [List.set_cons_zero]
          refine takeL (i := 8) (d := some 50) (v := ?_) rfl rfl (by kernel_rfl) (by kernel_rfl) (by kernel_rfl) (by kernel_rfl) (by kernel_rfl) (fun _ _ _ h => h) (Or.inl ⟨by rfl, ?_⟩) (by assumption) ?_
          rotate_left
          · ((intro w8 hSw; rw [HS5.out] at hSw; obtain ⟨q1, q2, q3, q4, q5, q6⟩ := hSw; go_simp); try with_reducible rfl)
          try simp only [Act.put]
          try simp only [List.setIfInBounds_toArray]
          try simp only [List.set_cons_succ]
          try simp only [List.set_cons_zero]
          refine takeP (i := 9) (d := some 51) (v := ?_) rfl rfl (by kernel_rfl) (by kernel_rfl) (by kernel_rfl) (by kernel_rfl) (by kernel_rfl) (fun _ _ _ h => h) (Or.inl ⟨by rfl, ?_⟩) (by first | exact Or.inr (by assumption) | exact Or.inl (by kernel_rfl)) ?_
          rotate_left
          · ((intro w8 _; go_simp); try with_reducible rfl)
          try simp only [Act.put]
          try simp only [List.setIfInBounds_toArray]
          try simp only [List.set_cons_succ]
          try simp only [List.set_cons_zero]
          refine takeP (i := 10) (d := some 52) (v := ?_) rfl rfl (by kernel_rfl) (by kernel_rfl) (by kernel_rfl) (by kernel_rfl) (by kernel_rfl) (fun _ _ _ h => h) (Or.inl ⟨by rfl, ?_⟩) (by first | exact Or.inr (by assumption) | exact Or.inl (by kernel_rfl)) ?_
          rotate_left
          · ((intro w8 _; go_simp); try with_reducible rfl)
          try simp only [Act.put]
          try simp only [List.setIfInBounds_toArray]
          try simp only [List.set_cons_succ]
          try simp only [List.set_cons_zero]
          refine takeP (i := 11) (d := some 53) (v := ?_) rfl rfl (by kernel_rfl) (by kernel_rfl) (by kernel_rfl) (by kernel_rfl) (by kernel_rfl) (fun _ _ _ h => h) (Or.inl ⟨by rfl, ?_⟩) (by first | exact Or.inr (by assumption) | exact Or.inl (by kernel_rfl)) ?_
          rotate_left
          · ((intro w8 _; go_simp); try with_reducible rfl)
          try simp only [Act.put]
          try simp only [List.setIfInBounds_toArray]
          try simp only [List.set_cons_succ]
          try simp only [List.set_cons_zero]
          refine takeL (i := 12) (d := some 54) (v := ?_) rfl rfl (by kernel_rfl) (by kernel_rfl) (by kernel_rfl) (by kernel_rfl) (by kernel_rfl) (fun _ _ _ h => h) (Or.inl ⟨by rfl, ?_⟩) (by assumption) ?_
          rotate_left
          · ((intro w8 hSw; rw [HS5.out] at hSw; obtain ⟨q1, q2, q3, q4, q5, q6⟩ := hSw; go_simp); try with_reducible rfl)
          try simp only [Act.put]
          try simp only [List.setIfInBounds_toArray]
          try simp only [List.set_cons_succ]
          try simp only [List.set_cons_zero]
          refine takeP (i := 13) (d := some 55) (v := ?_) rfl rfl (by kernel_rfl) (by kernel_rfl) (by kernel_rfl) (by kernel_rfl) (by kernel_rfl) (fun _ _ _ h => h) (Or.inl ⟨by rfl, ?_⟩) (by first | exact Or.inr (by assumption) | exact Or.inl (by kernel_rfl)) ?_
          rotate_left
          · ((intro w8 _; go_simp); try with_reducible rfl)
          try simp only [Act.put]
          try simp only [List.setIfInBounds_toArray]
          try simp only [List.set_cons_succ]
          try simp only [List.set_cons_zero]
          refine outL (i := 14) rfl (by kernel_rfl) (by kernel_rfl) (fun K8 hK8 => ?_)
          go_simp

          refine hK8 _ _ ?_
          try simp only [Act.put]
          try simp only [List.setIfInBounds_toArray]
          try simp only [List.set_cons_succ]
          try simp only [List.set_cons_zero]
          refine lst_done (by kernel_rfl) ?_ _
          have y4 : IntKind.i64.wrap (kz + 1) = kz + 1 := IntWalk.i64_in _ (by have := HLL.out; omega)
          go_wp2
          go_roundw
          case rel => exact ⟨i + 1, iz + 1, kz + 1, by go_num, by go_num, by have := HIZ.out; omega, HY.out, by omega, HF3⟩
          case measure => have := HIZ.out; simp [RowKit.intOf]; omega
      · obtain ⟨j, rfl⟩ : ∃ j, i = j + 1 := ⟨i - 1, by omega⟩
        have hg : (0 : Int) < iz := by have := HIZ.out; omega
        have e0 : IntKind.i64.wrap (j : Int) = (j : Int) := IntWalk.i64_in _ (by omega)
        have e1 : iz - 1 = (j : Int) := by have := HIZ.out; omega
        have z3 : (j : Int) < (l.length : Int) := by omega
        have z4 : (0 : Int) ≤ (j : Int) := by omega
        obtain ⟨b, o, hb, ⟨-, -, -, p0, p1, p2⟩, -, -, -, y0, y1, y2⟩ := (slJ_on hf.out HS.out).get2 (show j < l.length by omega) hlt
        first | subst hb | cases hb
        have HC := Lib.hid (fun w' => less_any l[j] l[j + 1] w')
        have hinc : adjL l[j] l[j + 1] = true := List.pairwise_iff_getElem.1 HMo.out.i j (j + 1) (by omega) hlt (by omega)
        rw [hinc] at HC
        unfold adv at HC
        clear hinc
        generalize l[j].1 = f1 at *
        generalize l[j].2.1 = t1 at *
        generalize l[j].2.2 = g1 at *
        generalize hf2 : l[j + 1].1 = f2 at *
        generalize ht2 : l[j + 1].2.1 = t2 at *
        generalize hg2 : l[j + 1].2.2 = g2 at *
        clear hf2 ht2 hg2
        go_upto_region 7 with fail
        obtain ⟨S, hS⟩ : ∃ S : World → Prop, S = (fun w8 => w8.cell? ⟨b, o + j * 3, none⟩ = some (.int .i64 f1) ∧ w8.cell? ⟨b, o + j * 3 + 1, none⟩ = some (.int .i64 t1) ∧ w8.cell? ⟨b, o + j * 3 + 2, none⟩ = some (.int .i64 g1) ∧ w8.cell? ⟨b, o + (j + 1) * 3, none⟩ = some (.int .i64 f2) ∧ w8.cell? ⟨b, o + (j + 1) * 3 + 1, none⟩ = some (.int .i64 t2) ∧ w8.cell? ⟨b, o + (j + 1) * 3 + 2, none⟩ = some (.int .i64 g2)) := ⟨_, rfl⟩
        have HS4 := Lib.hid hS
        clear hS
        refine lst_start [12] S (by kernel_rfl) ?_
        have hS0 : S wr.drew := by rw [HS4.out]; exact ⟨p0, p1, p2, y0, y1, y2⟩
        refine takeP (i := 0) (d := some 21) (v := ?_) rfl rfl (by kernel_rfl) (by kernel_rfl) (by kernel_rfl) (by kernel_rfl) (by kernel_rfl) (fun _ _ _ h => h) (Or.inl ⟨by rfl, ?_⟩) (by first | exact Or.inr (by assumption) | exact Or.inl (by kernel_rfl)) ?_
        rotate_left
        · ((intro w8 _; go_simp); try with_reducible rfl)
        try simp only [Act.put]
        try simp only [List.setIfInBounds_toArray]
        try simp only [List.set_cons_succ]
        try simp only [List.set_cons_zero]
        refine takeP (i := 1) (d := some 22) (v := ?_) rfl rfl (by kernel_rfl) (by kernel_rfl) (by kernel_rfl) (by kernel_rfl) (by kernel_rfl) (fun _ _ _ h => h) (Or.inl ⟨by rfl, ?_⟩) (by first | exact Or.inr (by assumption) | exact Or.inl (by kernel_rfl)) ?_
        rotate_left
        · ((intro w8 _; go_simp); try with_reducible rfl)
        try simp only [Act.put]
        try simp only [List.setIfInBounds_toArray]
        try simp only [List.set_cons_succ]
        try simp only [List.set_cons_zero]
        refine takeP (i := 2) (d := some 23) (v := ?_) rfl rfl (by kernel_rfl) (by kernel_rfl) (by kernel_rfl) (by kernel_rfl) (by kernel_rfl) (fun _ _ _ h => h) (Or.inl ⟨by rfl, ?_⟩) (by first | exact Or.inr (by assumption) | exact Or.inl (by kernel_rfl)) ?_
        rotate_left
        · ((intro w8 _; go_simp); try with_reducible rfl)
        try simp only [Act.put]
        try simp only [List.setIfInBounds_toArray]
        try simp only [List.set_cons_succ]
        try simp only [List.set_cons_zero]
        refine takeP (i := 3) (d := some 24) (v := ?_) rfl rfl (by kernel_rfl) (by kernel_rfl) (by kernel_rfl) (by kernel_rfl) (by kernel_rfl) (fun _ _ _ h => h) (Or.inl ⟨by rfl, ?_⟩) (by first | exact Or.inr (by assumption) | exact Or.inl (by kernel_rfl)) ?_
        rotate_left
        · ((intro w8 _; go_simp); try with_reducible rfl)
        try simp only [Act.put]
        try simp only [List.setIfInBounds_toArray]
        try simp only [List.set_cons_succ]
        try simp only [List.set_cons_zero]
        refine takeP (i := 4) (d := some 25) (v := ?_) rfl rfl (by kernel_rfl) (by kernel_rfl) (by kernel_rfl) (by kernel_rfl) (by kernel_rfl) (fun _ _ _ h => h) (Or.inl ⟨by rfl, ?_⟩) (by first | exact Or.inr (by assumption) | exact Or.inl (by kernel_rfl)) ?_
        rotate_left
        · ((intro w8 _; go_simp); try with_reducible rfl)
        try simp only [Act.put]
        try simp only [List.setIfInBounds_toArray]
        try simp only [List.set_cons_succ]
        try simp only [List.set_cons_zero]
        refine takeP (i := 5) (d := some 26) (v := ?_) rfl rfl (by kernel_rfl) (by kernel_rfl) (by kernel_rfl) (by kernel_rfl) (by kernel_rfl) (fun _ _ _ h => h) (Or.inl ⟨by rfl, ?_⟩) (by first | exact Or.inr (by assumption) | exact Or.inl (by kernel_rfl)) ?_
        rotate_left
        · ((intro w8 _; go_simp); try with_reducible rfl)
        try simp only [Act.put]
        try simp only [List.setIfInBounds_toArray]
        try simp only [List.set_cons_succ]
        try simp only [List.set_cons_zero]
        refine takeP (i := 6) (d := some 27) (v := ?_) rfl rfl (by kernel_rfl) (by kernel_rfl) (by kernel_rfl) (by kernel_rfl) (by kernel_rfl) (fun _ _ _ h => h) (Or.inl ⟨by rfl, ?_⟩) (by first | exact Or.inr (by assumption) | exact Or.inl (by kernel_rfl)) ?_
        rotate_left
        · ((intro w8 _; go_simp); try with_reducible rfl)
        try simp only [Act.put]
        try simp only [List.setIfInBounds_toArray]
        try simp only [List.set_cons_succ]
        try simp only [List.set_cons_zero]
        refine takeL (i := 7) (d := some 28) (v := ?_) rfl rfl (by kernel_rfl) (by kernel_rfl) (by kernel_rfl) (by kernel_rfl) (by kernel_rfl) (fun _ _ _ h => h) (Or.inl ⟨by rfl, ?_⟩) (by assumption) ?_
        rotate_left
        · ((intro w8 hSw; rw [HS4.out] at hSw; obtain ⟨y1, y2, y3, y4, y5, y6⟩ := hSw; go_simp); try with_reducible rfl)
        try simp only [Act.put]
        try simp only [List.setIfInBounds_toArray]
        try simp only [List.set_cons_succ]
        try simp only [List.set_cons_zero]
        refine takeP (i := 8) (d := some 29) (v := ?_) rfl rfl (by kernel_rfl) (by kernel_rfl) (by kernel_rfl) (by kernel_rfl) (by kernel_rfl) (fun _ _ _ h => h) (Or.inl ⟨by rfl, ?_⟩) (by first | exact Or.inr (by assumption) | exact Or.inl (by kernel_rfl)) ?_
        rotate_left
        · ((intro w8 _; go_simp); try with_reducible rfl)
        try simp only [Act.put]
        try simp only [List.setIfInBounds_toArray]
        try simp only [List.set_cons_succ]
        try simp only [List.set_cons_zero]
        refine takeP (i := 9) (d := some 30) (v := ?_) rfl rfl (by kernel_rfl) (by kernel_rfl) (by kernel_rfl) (by kernel_rfl) (by kernel_rfl) (fun _ _ _ h => h) (Or.inl ⟨by rfl, ?_⟩) (by first | exact Or.inr (by assumption) | exact Or.inl (by kernel_rfl)) ?_
        rotate_left
        · ((intro w8 _; go_simp); try with_reducible rfl)
        try simp only [Act.put]
        try simp only [List.setIfInBounds_toArray]
        try simp only [List.set_cons_succ]
        try simp only [List.set_cons_zero]
        refine takeP (i := 10) (d := some 31) (v := ?_) rfl rfl (by kernel_rfl) (by kernel_rfl) (by kernel_rfl) (by kernel_rfl) (by kernel_rfl) (fun _ _ _ h => h) (Or.inl ⟨by rfl, ?_⟩) (by first | exact Or.inr (by assumption) | exact Or.inl (by kernel_rfl)) ?_
        rotate_left
        · ((intro w8 _; go_simp); try with_reducible rfl)
        try simp only [Act.put]
        try simp only [List.setIfInBounds_toArray]
        try simp only [List.set_cons_succ]
        try simp only [List.set_cons_zero]
        refine takeL (i := 11) (d := some 32) (v := ?_) rfl rfl (by kernel_rfl) (by kernel_rfl) (by kernel_rfl) (by kernel_rfl) (by kernel_rfl) (fun _ _ _ h => h) (Or.inl ⟨by rfl, ?_⟩) (by assumption) ?_
        rotate_left
        · ((intro w8 hSw; rw [HS4.out] at hSw; obtain ⟨y1, y2, y3, y4, y5, y6⟩ := hSw; go_simp); try with_reducible rfl)
        try simp only [Act.put]
        try simp only [List.setIfInBounds_toArray]
        try simp only [List.set_cons_succ]
        try simp only [List.set_cons_zero]
        refine outL (i := 12) rfl (by kernel_rfl) (by kernel_rfl) (fun K8 hK8 => ?_)
        go_simp
        go_at_call 35; refine (HC.out _).mono ?_; rintro e9 w9 ⟨rfl, f9⟩
        have HF := Lib.hid ((hf.out.trans (fuw_dr wr 1)).trans f9)
        refine hK8 _ _ ?_
        try simp only [Act.put]
        try simp only [List.setIfInBounds_toArray]
        try simp only [List.set_cons_succ]
        try simp only [List.set_cons_zero]
        refine takeP (i := 13) (d := some 34) (v := ?_) rfl rfl (by kernel_rfl) (by kernel_rfl) (by kernel_rfl) (by kernel_rfl) (by kernel_rfl) (fun _ _ _ h => h) (Or.inl ⟨by rfl, ?_⟩) (by first | exact Or.inr (by assumption) | exact Or.inl (by kernel_rfl)) ?_
        rotate_left
        · ((intro w8 _; go_simp); try with_reducible rfl)
        try simp only [Act.put]
        try simp only [List.setIfInBounds_toArray]
        try simp only [List.set_cons_succ]
        try simp only [List.set_cons_zero]
        refine takeP (i := 14) (d := some 35) (v := ?_) rfl rfl (by kernel_rfl) (by kernel_rfl) (by kernel_rfl) (by kernel_rfl) (by kernel_rfl) (fun _ _ _ h => h) (Or.inl ⟨by rfl, ?_⟩) (by first | exact Or.inr (by assumption) | exact Or.inl (by kernel_rfl)) ?_
        rotate_left
        · ((intro w8 _; go_simp); try with_reducible rfl)
        try simp only [Act.put]
        try simp only [List.setIfInBounds_toArray]
        try simp only [List.set_cons_succ]
        try simp only [List.set_cons_zero]
        refine lst_done (by kernel_rfl) ?_ _
        clear p0 p1 p2 y0 y1 y2 HS4 f9 e0 e1 z3 z4 HC
        generalize hji : j + 1 = i at *
        clear hji
        have hwr : True := trivial
        clear hg hwr
        have HC9 := Lib.hid ((slJ_on HF.out HS.out).get hlt)
        obtain ⟨b, o, hb, -, -, -, c0, c1, c2⟩ := HC9.out
        first | subst hb | cases hb
        have d0 := (B0.out.on HF.out).c 0; have d1 := (B0.out.on HF.out).c 1; have d2 := (B0.out.on HF.out).c 2
        simp only [List.getElem?_toArray, List.getElem?_cons_zero, List.getElem?_cons_succ] at d0 d1 d2
        have heq := fun w' => eql_adj l[i] (x0, x1, x2) w'
        have hgd := fun (op : BinOp) (p q : Operand) (xs ys : Array Value) (w' : World) => run_eqGuard_agg w' op 29 p q xs ys guard_adj
        obtain ⟨q, hq⟩ : ∃ q, eqJ l[i] (x0, x1, x2) = q := ⟨_, rfl⟩
        simp only [hq] at heq
        have HQ2 := Lib.hid hq
        clear hq
        generalize hl0 : l[i].1 = l0 at *
        generalize hl1 : l[i].2.1 = l1 at *
        generalize hl2 : l[i].2.2 = l2 at *
        have HF2 := Lib.hid HF.out.drew
        cases q with
        | true =>
          have HZ := Lib.hid (cntX_t hlt HQ2.out)
          clear hl0 hl1 hl2
          go_upto_region 9 with fail
          go_region
          go_wp2
          go_roundw
          case rel => exact ⟨i + 1, iz + 1, kz, by go_num, rfl, by have := HIZ.out; omega, by rw [HZ.out]; exact HKZ.out, by omega, HF2⟩
          case measure => have := HIZ.out; simp [RowKit.intOf]; omega
        | false =>
          have HZ := Lib.hid (cntX_f hlt HQ2.out)
          obtain ⟨hk, hmk⟩ := cntX_at hlt HMo.out.f HQ2.out
          go_upto_region 9 with fail
          go_region
          clear c0 c1 c2 d0 d1 d2 heq
          obtain ⟨b, o, hb, -, -, -, c0, c1, c2⟩ := (slJ_on HF2.out HS.out).get hlt
          cases hb
          obtain ⟨b', o', hb', -, -, -, d0, d1, d2⟩ := (slJ_on HF2.out HM.out).get hk
          subst hb'
          rw [hmk] at d0 d1 d2
          rw [hl0] at c0 d0
          rw [hl1] at c1 d1
          rw [hl2] at c2 d2
          have heq := fun w' => neq_adj (l0, l1, l2) (l0, l1, l2) w'
          rw [(eqJ_iff (l0, l1, l2) (l0, l1, l2)).2 rfl] at heq
          clear hl0 hl1 hl2 hmk
          have y0 : (0 : Int) ≤ kz := by have := HKZ.out; omega
          have y1 : kz < (m.length : Int) := by have := HKZ.out; omega
          have y2 : kz.toNat = cntX l (x0, x1, x2) i := by have := HKZ.out; omega
          have y3 : ¬ (m.length : Int) ≤ kz := by omega
          have HY := Lib.hid (show (kz + 1 : Int) = (cntX l (x0, x1, x2) (i + 1) : Nat) by rw [HZ.out]; have := HKZ.out; omega)
          clear HZ
          generalize cntX l (x0, x1, x2) i = ck at *
          have HF3 := Lib.hid HF2.out.drew
          go_upto_region 10 with fail
          obtain ⟨S, hS⟩ : ∃ S : World → Prop, S = (fun w8 => w8.cell? ⟨b, o + i * 3, none⟩ = some (.int .i64 l0) ∧ w8.cell? ⟨b, o + i * 3 + 1, none⟩ = some (.int .i64 l1) ∧ w8.cell? ⟨b, o + i * 3 + 2, none⟩ = some (.int .i64 l2) ∧ w8.cell? ⟨b', o' + ck * 3, none⟩ = some (.int .i64 l0) ∧ w8.cell? ⟨b', o' + ck * 3 + 1, none⟩ = some (.int .i64 l1) ∧ w8.cell? ⟨b', o' + ck * 3 + 2, none⟩ = some (.int .i64 l2)) := ⟨_, rfl⟩
          have HS5 := Lib.hid hS
          clear hS
          refine lst_start [14] S (by kernel_rfl) ?_
          have hS0 : S w9.drew.drew := by rw [HS5.out]; exact ⟨c0, c1, c2, d0, d1, d2⟩
          refine takeP (i := 0) (d := some 42) (v := ?_) rfl rfl (by kernel_rfl) (by kernel_rfl) (by kernel_rfl) (by kernel_rfl) (by kernel_rfl) (fun _ _ _ h => h) (Or.inl ⟨by rfl, ?_⟩) (by first | exact Or.inr (by assumption) | exact Or.inl (by kernel_rfl)) ?_
          rotate_left
          · ((intro w8 _; go_simp); try with_reducible rfl)
          try simp only [Act.put]
          try simp only [List.setIfInBounds_toArray]
          try simp only [List.set_cons_succ]
          try simp only [List.set_cons_zero]
          refine takeP (i := 1) (d := some 43) (v := ?_) rfl rfl (by kernel_rfl) (by kernel_rfl) (by kernel_rfl) (by kernel_rfl) (by kernel_rfl) (fun _ _ _ h => h) (Or.inl ⟨by rfl, ?_⟩) (by first | exact Or.inr (by assumption) | exact Or.inl (by kernel_rfl)) ?_
          rotate_left
          · ((intro w8 _; go_simp); try with_reducible rfl)
          try simp only [Act.put]
          try simp only [List.setIfInBounds_toArray]
          try simp only [List.set_cons_succ]
          try simp only [List.set_cons_zero]
          refine takeP (i := 2) (d := some 44) (v := ?_) rfl rfl (by kernel_rfl) (by kernel_rfl) (by kernel_rfl) (by kernel_rfl) (by kernel_rfl) (fun _ _ _ h => h) (Or.inl ⟨by rfl, ?_⟩) (by first | exact Or.inr (by assumption) | exact Or.inl (by kernel_rfl)) ?_
          rotate_left
          · ((intro w8 _; go_simp); try with_reducible rfl)
          try simp only [Act.put]
          try simp only [List.setIfInBounds_toArray]
          try simp only [List.set_cons_succ]
          try simp only [List.set_cons_zero]
          refine takeP (i := 3) (d := some 45) (v := ?_) rfl rfl (by kernel_rfl) (by kernel_rfl) (by kernel_rfl) (by kernel_rfl) (by kernel_rfl) (fun _ _ _ h => h) (Or.inl ⟨by rfl, ?_⟩) (by first | exact Or.inr (by assumption) | exact Or.inl (by kernel_rfl)) ?_
          rotate_left
          · ((intro w8 _; go_simp); try with_reducible rfl)
          try simp only [Act.put]
          try simp only [List.setIfInBounds_toArray]
          try simp only [List.set_cons_succ]
          try simp only [List.set_cons_zero]
          refine takeP (i := 4) (d := some 46) (v := ?_) rfl rfl (by kernel_rfl) (by kernel_rfl) (by kernel_rfl) (by kernel_rfl) (by kernel_rfl) (fun _ _ _ h => h) (Or.inl ⟨by rfl, ?_⟩) (by first | exact Or.inr (by assumption) | exact Or.inl (by kernel_rfl)) ?_
          rotate_left
          · ((intro w8 _; go_simp); try with_reducible rfl)
          try simp only [Act.put]
          try simp only [List.setIfInBounds_toArray]
          try simp only [List.set_cons_succ]
          try simp only [List.set_cons_zero]
          refine takeP (i := 5) (d := some 47) (v := ?_) rfl rfl (by kernel_rfl) (by kernel_rfl) (by kernel_rfl) (by kernel_rfl) (by kernel_rfl) (fun _ _ _ h => h) (Or.inl ⟨by rfl, ?_⟩) (by first | exact Or.inr (by assumption) | exact Or.inl (by kernel_rfl)) ?_
          rotate_left
          · ((intro w8 _; go_simp); try with_reducible rfl)
          try simp only [Act.put]
          try simp only [List.setIfInBounds_toArray]
          try simp only [List.set_cons_succ]
          try simp only [List.set_cons_zero]
          refine takeP (i := 6) (d := some 48) (v := ?_) rfl rfl (by kernel_rfl) (by kernel_rfl) (by kernel_rfl) (by kernel_rfl) (by kernel_rfl) (fun _ _ _ h => h) (Or.inl ⟨by rfl, ?_⟩) (by first | exact Or.inr (by assumption) | exact Or.inl (by kernel_rfl)) ?_
          rotate_left
          · ((intro w8 _; go_simp); try with_reducible rfl)
          try simp only [Act.put]
          try simp only [List.setIfInBounds_toArray]
          try simp only [List.set_cons_succ]
          try simp only [List.set_cons_zero]
          refine takeP (i := 7) (d := some 49) (v := ?_) rfl rfl (by kernel_rfl) (by kernel_rfl) (by kernel_rfl) (by kernel_rfl) (by kernel_rfl) (fun _ _ _ h => h) (Or.inl ⟨by rfl, ?_⟩) (by first | exact Or.inr (by assumption) | exact Or.inl (by kernel_rfl)) ?_
          rotate_left
          · ((intro w8 _; go_simp); try with_reducible rfl)
          try simp only [Act.put]
          try simp only [List.setIfInBounds_toArray]
          try simp only [List.set_cons_succ]
          try simp only [List.set_cons_zero]
          refine takeL (i := 8) (d := some 50) (v := ?_) rfl rfl (by kernel_rfl) (by kernel_rfl) (by kernel_rfl) (by kernel_rfl) (by kernel_rfl) (fun _ _ _ h => h) (Or.inl ⟨by rfl, ?_⟩) (by assumption) ?_
          rotate_left
          · ((intro w8 hSw; rw [HS5.out] at hSw; obtain ⟨q1, q2, q3, q4, q5, q6⟩ := hSw; go_simp); try with_reducible rfl)
          try simp only [Act.put]
          try simp only [List.setIfInBounds_toArray]
          try simp only [List.set_cons_succ]
          try simp only [List.set_cons_zero]
          refine takeP (i := 9) (d := some 51) (v := ?_) rfl rfl (by kernel_rfl) (by kernel_rfl) (by kernel_rfl) (by kernel_rfl) (by kernel_rfl) (fun _ _ _ h => h) (Or.inl ⟨by rfl, ?_⟩) (by first | exact Or.inr (by assumption) | exact Or.inl (by kernel_rfl)) ?_
          rotate_left
          · ((intro w8 _; go_simp); try with_reducible rfl)
          try simp only [Act.put]
          try simp only [List.setIfInBounds_toArray]
          try simp only [List.set_cons_succ]
          try simp only [List.set_cons_zero]
          refine takeP (i := 10) (d := some 52) (v := ?_) rfl rfl (by kernel_rfl) (by kernel_rfl) (by kernel_rfl) (by kernel_rfl) (by kernel_rfl) (fun _ _ _ h => h) (Or.inl ⟨by rfl, ?_⟩) (by first | exact Or.inr (by assumption) | exact Or.inl (by kernel_rfl)) ?_
          rotate_left
          · ((intro w8 _; go_simp); try with_reducible rfl)
          try simp only [Act.put]
          try simp only [List.setIfInBounds_toArray]
          try simp only [List.set_cons_succ]
          try simp only [List.set_cons_zero]
          refine takeP (i := 11) (d := some 53) (v := ?_) rfl rfl (by kernel_rfl) (by kernel_rfl) (by kernel_rfl) (by kernel_rfl) (by kernel_rfl) (fun _ _ _ h => h) (Or.inl ⟨by rfl, ?_⟩) (by first | exact Or.inr (by assumption) | exact Or.inl (by kernel_rfl)) ?_
          rotate_left
          · ((intro w8 _; go_simp); try with_reducible rfl)
          try simp only [Act.put]
          try simp only [List.setIfInBounds_toArray]
          try simp only [List.set_cons_succ]
          try simp only [List.set_cons_zero]
          refine takeL (i := 12) (d := some 54) (v := ?_) rfl rfl (by kernel_rfl) (by kernel_rfl) (by kernel_rfl) (by kernel_rfl) (by kernel_rfl) (fun _ _ _ h => h) (Or.inl ⟨by rfl, ?_⟩) (by assumption) ?_
          rotate_left
          · ((intro w8 hSw; rw [HS5.out] at hSw; obtain ⟨q1, q2, q3, q4, q5, q6⟩ := hSw; go_simp); try with_reducible rfl)
          try simp only [Act.put]
          try simp only [List.setIfInBounds_toArray]
          try simp only [List.set_cons_succ]
          try simp only [List.set_cons_zero]
          refine takeP (i := 13) (d := some 55) (v := ?_) rfl rfl (by kernel_rfl) (by kernel_rfl) (by kernel_rfl) (by kernel_rfl) (by kernel_rfl) (fun _ _ _ h => h) (Or.inl ⟨by rfl, ?_⟩) (by first | exact Or.inr (by assumption) | exact Or.inl (by kernel_rfl)) ?_
          rotate_left
          · ((intro w8 _; go_simp); try with_reducible rfl)
          try simp only [Act.put]
          try simp only [List.setIfInBounds_toArray]
          try simp only [List.set_cons_succ]
          try simp only [List.set_cons_zero]
          refine outL (i := 14) rfl (by kernel_rfl) (by kernel_rfl) (fun K8 hK8 => ?_)
          go_simp

          refine hK8 _ _ ?_
          try simp only [Act.put]
          try simp only [List.setIfInBounds_toArray]
          try simp only [List.set_cons_succ]
          try simp only [List.set_cons_zero]
          refine lst_done (by kernel_rfl) ?_ _
          have y4 : IntKind.i64.wrap (kz + 1) = kz + 1 := IntWalk.i64_in _ (by have := HLL.out; omega)
          go_wp2
          go_roundw
          case rel => exact ⟨i + 1, iz + 1, kz + 1, by go_num, by go_num, by have := HIZ.out; omega, HY.out, by omega, HF3⟩
          case measure => have := HIZ.out; simp [RowKit.intOf]; omega
    · have hi2 : i = l.length := by omega
      subst hi2
      have hk : kz = (m.length : Int) := by rw [hkz, cntX_end HMo.out.f]
      have hge : ¬ iz < (l.length : Int) := by omega
      have HK := Lib.hid hk
      clear hkz hk
      obtain rfl := HK.out
      go_wp2
      go_ret
      exact ⟨ret_bool (by simp), F0.out.trans hf.out⟩
end Go.Proofs.Ytpamdlkagmlahaa
