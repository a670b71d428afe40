
/-
  The reference of columns: all entries of a column whose bounds fit. Nothing that was there turns.
-/
import Derived.Test.YtpjikijfendmhaaGreatCoB
import Derived.Test.YtpjikijfendmhaaGreatRfM
namespace Go.Proofs.YtpjikijfendmhaaGreat
open Go.RowKit

theorem rid12_any (x : Int) (w : World) : Calls Tryz.prog 65 #[.int .i64 x] w (PureB w (idB x)) := by
  have HL := Lib.hid (show idB x = (decide (1 ≤ x) && decide (x ≤ 1000000)) from rfl)
  generalize idB x = L at *
  go_enter Tryz.func65, Tryz.ntmps65
  go_wp2
  all_goals
    go_ret
    exact ⟨ret_bool (by rw [HL.out, Bool.eq_iff_iff]; simp; omega), rfl⟩
theorem rid13_any (x : Int) (w : World) : Calls Tryz.prog 42 #[.int .i64 x] w (PureB w (idB x)) := by
  have HL := Lib.hid (show idB x = (decide (1 ≤ x) && decide (x ≤ 1000000)) from rfl)
  generalize idB x = L at *
  go_enter Tryz.func42, Tryz.ntmps42
  go_wp2
  all_goals
    go_ret
    exact ⟨ret_bool (by rw [HL.out, Bool.eq_iff_iff]; simp; omega), rfl⟩
set_option maxHeartbeats 12800000 in
set_option maxRecDepth 100000 in
theorem rflat_any (c : Cm) (A : CA) (w : World) (hC : CIn w c A) (hb : bndB c = true) (hl : c.ts.length ≤ 1000000) :
    Calls Tryz.prog 59 #[colv c A] w (RetJ w (entL c)) := by
  obtain ⟨w0, hw0⟩ : ∃ w0, w.alloc (.cells (colC c A) 24) = w0 := ⟨_, rfl⟩
  have B0 := Lib.hid (show Bk w0 w.heap.size (colC c A) 24 by rw [← hw0]; exact Bk.new _ _ _)
  have F0 := Lib.hid (show Fuw w w0 by rw [← hw0]; exact fuwA _ _)
  have HC := Lib.hid (hC.on F0.out)
  have HB := Lib.hid hb
  have HLe := Lib.hid (fun (i : Nat) (hi : i ≤ c.ns.length) => entN_len hb hi)
  have m1 := hC.n.cap_
  have l1 := hC.n.le
  have m2 := hC.f.cap_
  have l2 := hC.f.le
  have m3 := hC.t.cap_
  have l3 := hC.t.le
  have m4 := hC.e.cap_
  have l4 := hC.e.le
  obtain ⟨i0, hi0, hz0, hz1, hz2⟩ := info_parts infoJ
  have D1 := Lib.hid (B0.out.c 0); have D2 := Lib.hid (B0.out.c 1); have D3 := Lib.hid (B0.out.c 2); have D4 := Lib.hid (B0.out.c 3)
  unfold colv
  unfold colC at D1 D2 D3 D4 hw0 ⊢
  simp only [List.getElem?_toArray, List.getElem?_cons_zero, List.getElem?_cons_succ] at D1 D2 D3 D4
  clear hC hb
  go_enter Tryz.func59, Tryz.ntmps59
  go_upto_region 2 with fail
  clear hw0
  go_wp2
  go_loopw [3, 4] (fun lv iv wr => ∃ i : Nat, iv = .int .i64 i ∧ i ≤ c.ns.length ∧ Hid (OwnJ w0 wr lv (entN c i)) ∧ Hid (Fuw w0 wr)) (fun _ iv _ => c.ns.length - (RowKit.intOf iv).toNat)
  case atStart => exact ⟨0, rfl, by omega, Lib.hid (World.ownsRow_nil _ _ _ _), Lib.hid (Fuw.refl _)⟩
  case round =>
    obtain ⟨i, rfl, hii, hown, hF⟩ := hrel
    have d1 := cellOnw hF.out D1.out; have d2 := cellOnw hF.out D2.out
    by_cases hlt : i < c.ns.length
    · obtain ⟨q1, q2, q3, q4, q5⟩ := bnd_at HB.out hlt
      have HS1 := Lib.hid (entN_step c i)
      have HA := Lib.hid (HLe.out (i + 1) hlt)
      have HRow := Lib.hid (show rowL c i = segL (c.ns.getD i 0) c.ts c.es (c.fs.getD i 0).toNat ((c.fs.getD (i + 1) 0).toNat - (c.fs.getD i 0).toNat) from rfl)
      have x1 : i < c.fs.length := by omega
      have x2 : i + 1 < c.fs.length := by omega
      obtain ⟨b1, o1, e1, ⟨hn64, cn⟩⟩ := HC.out.n.get hlt
      obtain ⟨b2, o2, e2, ⟨hf64, cf⟩, hg64, cg⟩ := HC.out.f.get2 x1 x2
      rw [gd x1] at q2 q3 HRow
      rw [gd x2] at q3 q4 HRow
      rw [gd hlt] at HRow
      rw [Nat.mul_one] at cn cf cg
      have E1 := Lib.hid e1
      have E2 := Lib.hid e2
      obtain ⟨n, hn⟩ : ∃ n, c.ns[i] = n := ⟨_, rfl⟩
      obtain ⟨f, hf⟩ : ∃ f : Nat, c.fs[i] = (f : Int) := ⟨c.fs[i].toNat, by omega⟩
      obtain ⟨g, hg⟩ : ∃ g : Nat, c.fs[i + 1] = (g : Int) := ⟨c.fs[i + 1].toNat, by omega⟩
      rw [hn] at cn
      rw [hf] at cf q2 q3
      rw [hg] at cg q3 q4
      rw [hn, hf, hg, show ((f : Int)).toNat = f from rfl, show ((g : Int)).toNat = g from rfl] at HRow
      rw [e1] at d1
      rw [e2] at d2
      have x3 : (i : Int) < (c.fs.length : Int) := by omega
      have x4 : (i : Int) + 1 < (c.fs.length : Int) := by omega
      have x5 : (i : Int) < (c.ns.length : Int) := by omega
      have Q1 := Lib.hid q1
      have Q5 := Lib.hid q5
      have CN := Lib.hid cn; have CF := Lib.hid cf; have CG := Lib.hid cg
      replace cn := cellOnw hF.out CN.out; replace cf := cellOnw hF.out CF.out; replace cg := cellOnw hF.out CG.out
      rw [HS1.out, List.length_append, HRow.out, segL_len] at HA
      generalize entN c i = L1 at *
      clear hn hf hg hn64 hf64 hg64 e1 e2 q1 q5
      go_wp2
      go_loopw [3, 5] (fun lv kv wr => ∃ m : Nat, kv = .int .i64 ((f : Int) + (m : Int)) ∧ f + m ≤ g ∧ Hid (OwnJ w0 wr lv (L1 ++ segL n c.ts c.es f m)) ∧ Hid (Fuw w0 wr)) (fun _ kv _ => g - (RowKit.intOf kv).toNat)
      case atStart => exact ⟨0, by simp, by omega, by rw [show segL n c.ts c.es f 0 = [] from rfl, List.append_nil]; exact hown, hF⟩
      case round =>
        clear d1 d2 cn cf cg hown hF
        obtain ⟨m, rfl, hm, hown, hF⟩ := hrel
        have d1' := cellOnw hF.out D1.out; have d2' := cellOnw hF.out D2.out; have d3' := cellOnw hF.out D3.out; have d4' := cellOnw hF.out D4.out
        have cn' := cellOnw hF.out CN.out; have cf' := cellOnw hF.out CF.out; have cg' := cellOnw hF.out CG.out
        rw [E1.out] at d1'
        rw [E2.out] at d2'
        by_cases hlt2 : f + m < g
        · have k3 : f + m < c.ts.length := by omega
          have k4 : f + m < c.es.length := by have := Q5.out; omega
          obtain ⟨b3, o3, e3, ht64, ct⟩ := (slI_on hF.out HC.out.t).get k3
          obtain ⟨b4, o4, e4, he64, ce⟩ := (slI_on hF.out HC.out.e).get k4
          have HSeg := Lib.hid (segL_step n c.ts c.es f m)
          rw [gd k3, gd k4] at HSeg
          generalize c.ts[f + m] = t at *
          generalize c.es[f + m] = e at *
          rw [Nat.mul_one] at ct ce
          rw [e3] at d3'
          rw [e4] at d4'
          clear e3 e4
          have hlt' : (f : Int) + (m : Int) < (g : Int) := by omega
          have z1 : ((f : Int) + (m : Int)).toNat = f + m := by omega
          have z2 : (0 : Int) ≤ (f : Int) + (m : Int) := by omega
          have z3 : (f : Int) + (m : Int) < (c.ts.length : Int) := by omega
          have z4 : (f : Int) + (m : Int) < (c.es.length : Int) := by have := Q5.out; omega
          have ml : (L1 ++ segL n c.ts c.es f m).length ≤ 1000000 := by rw [List.length_append, segL_len]; have := HA.out; omega
          obtain ⟨L, hL⟩ : ∃ L, L1 ++ segL n c.ts c.es f m = L := ⟨_, rfl⟩
          have HSeg2 := Lib.hid (show L1 ++ segL n c.ts c.es f (m + 1) = L ++ [(n, t, e)] by rw [HSeg.out, ← List.append_assoc, hL])
          rw [hL] at hown ml
          clear hL HSeg
          have HO := Lib.hid (show (wr.alloc (.cells #[.int .i64 n, .int .i64 t, .int .i64 e] 42)).drew.ownsRow w0.heap.size 42 3 _ L.length (aC L) from own_on hown.out ((fuwA wr (.cells #[.int .i64 n, .int .i64 t, .int .i64 e] 42)).drew))
          have sz : w0.heap.size ≤ wr.heap.size := hF.out.size
          have wm : IntKind.i64.wrap ((i : Int) + 1) = (i : Int) + 1 := IntWalk.i64_in _ (by omega)
          go_upto_region 8 with fail
          obtain ⟨S, hS⟩ : ∃ S : World → Prop, S = (fun w8 => w8.cell? ⟨w.heap.size, 0, none⟩ = some (.slice (some ⟨b1, o1, none⟩) c.ns.length A.k1) ∧ w8.cell? ⟨w.heap.size, 2, none⟩ = some (.slice (some ⟨b3, o3, none⟩) c.ts.length A.k3) ∧ w8.cell? ⟨w.heap.size, 3, none⟩ = some (.slice (some ⟨b4, o4, none⟩) c.es.length A.k4) ∧ w8.cell? ⟨b1, o1 + i, none⟩ = some (.int .i64 n) ∧ w8.cell? ⟨b3, o3 + (f + m), none⟩ = some (.int .i64 t) ∧ w8.cell? ⟨b4, o4 + (f + m), none⟩ = some (.int .i64 e)) := ⟨_, rfl⟩
          have HS := Lib.hid hS
          clear hS
          refine lst_start [17, 18] S (by kernel_rfl) ?_
          have hS0 : S wr.drew := by rw [HS.out]; exact ⟨d1', d3', d4', cn', ct, ce⟩
          refine takeP (i := 0) (d := some 28) (v := ?_) rfl rfl (by kernel_rfl) (by kernel_rfl) (by kernel_rfl) (by kernel_rfl) (by kernel_rfl) (fun _ _ _ h => h) (Or.inl ⟨by rfl, ?_⟩) (by first | exact Or.inr (by assumption) | exact Or.inl (by kernel_rfl)) ?_
          rotate_left
          · ((intro w8 _; go_simp); try with_reducible rfl)
          try simp only [Act.put]
          try simp only [List.setIfInBounds_toArray]
          try simp only [List.set_cons_succ]
          try simp only [List.set_cons_zero]
          refine takeP (i := 1) (d := some 29) (v := ?_) rfl rfl (by kernel_rfl) (by kernel_rfl) (by kernel_rfl) (by kernel_rfl) (by kernel_rfl) (fun _ _ _ h => h) (Or.inl ⟨by rfl, ?_⟩) (by first | exact Or.inr (by assumption) | exact Or.inl (by kernel_rfl)) ?_
          rotate_left
          · ((intro w8 _; go_simp); try with_reducible rfl)
          try simp only [Act.put]
          try simp only [List.setIfInBounds_toArray]
          try simp only [List.set_cons_succ]
          try simp only [List.set_cons_zero]
          refine takeL (i := 2) (d := some 30) (v := ?_) rfl rfl (by kernel_rfl) (by kernel_rfl) (by kernel_rfl) (by kernel_rfl) (by kernel_rfl) (fun _ _ _ h => h) (Or.inl ⟨by rfl, ?_⟩) (by assumption) ?_
          rotate_left
          · ((intro w8 hSw; rw [HS.out] at hSw; obtain ⟨y1, y2, y3, y4, y5, y6⟩ := hSw; go_simp); try with_reducible rfl)
          try simp only [Act.put]
          try simp only [List.setIfInBounds_toArray]
          try simp only [List.set_cons_succ]
          try simp only [List.set_cons_zero]
          refine takeP (i := 3) (d := some 31) (v := ?_) rfl rfl (by kernel_rfl) (by kernel_rfl) (by kernel_rfl) (by kernel_rfl) (by kernel_rfl) (fun _ _ _ h => h) (Or.inl ⟨by rfl, ?_⟩) (by first | exact Or.inr (by assumption) | exact Or.inl (by kernel_rfl)) ?_
          rotate_left
          · ((intro w8 _; go_simp); try with_reducible rfl)
          try simp only [Act.put]
          try simp only [List.setIfInBounds_toArray]
          try simp only [List.set_cons_succ]
          try simp only [List.set_cons_zero]
          refine takeP (i := 4) (d := some 32) (v := ?_) rfl rfl (by kernel_rfl) (by kernel_rfl) (by kernel_rfl) (by kernel_rfl) (by kernel_rfl) (fun _ _ _ h => h) (Or.inl ⟨by rfl, ?_⟩) (by first | exact Or.inr (by assumption) | exact Or.inl (by kernel_rfl)) ?_
          rotate_left
          · ((intro w8 _; go_simp); try with_reducible rfl)
          try simp only [Act.put]
          try simp only [List.setIfInBounds_toArray]
          try simp only [List.set_cons_succ]
          try simp only [List.set_cons_zero]
          refine takeL (i := 5) (d := some 33) (v := ?_) rfl rfl (by kernel_rfl) (by kernel_rfl) (by kernel_rfl) (by kernel_rfl) (by kernel_rfl) (fun _ _ _ h => h) (Or.inl ⟨by rfl, ?_⟩) (by assumption) ?_
          rotate_left
          · ((intro w8 hSw; rw [HS.out] at hSw; obtain ⟨y1, y2, y3, y4, y5, y6⟩ := hSw; go_simp); try with_reducible rfl)
          try simp only [Act.put]
          try simp only [List.setIfInBounds_toArray]
          try simp only [List.set_cons_succ]
          try simp only [List.set_cons_zero]
          refine takeP (i := 6) (d := some 34) (v := ?_) rfl rfl (by kernel_rfl) (by kernel_rfl) (by kernel_rfl) (by kernel_rfl) (by kernel_rfl) (fun _ _ _ h => h) (Or.inl ⟨by rfl, ?_⟩) (by first | exact Or.inr (by assumption) | exact Or.inl (by kernel_rfl)) ?_
          rotate_left
          · ((intro w8 _; go_simp); try with_reducible rfl)
          try simp only [Act.put]
          try simp only [List.setIfInBounds_toArray]
          try simp only [List.set_cons_succ]
          try simp only [List.set_cons_zero]
          refine takeL (i := 7) (d := some 35) (v := ?_) rfl rfl (by kernel_rfl) (by kernel_rfl) (by kernel_rfl) (by kernel_rfl) (by kernel_rfl) (fun _ _ _ h => h) (Or.inl ⟨by rfl, ?_⟩) (by assumption) ?_
          rotate_left
          · ((intro w8 hSw; rw [HS.out] at hSw; obtain ⟨y1, y2, y3, y4, y5, y6⟩ := hSw; go_simp); try with_reducible rfl)
          try simp only [Act.put]
          try simp only [List.setIfInBounds_toArray]
          try simp only [List.set_cons_succ]
          try simp only [List.set_cons_zero]
          refine takeP (i := 8) (d := some 36) (v := ?_) rfl rfl (by kernel_rfl) (by kernel_rfl) (by kernel_rfl) (by kernel_rfl) (by kernel_rfl) (fun _ _ _ h => h) (Or.inl ⟨by rfl, ?_⟩) (by first | exact Or.inr (by assumption) | exact Or.inl (by kernel_rfl)) ?_
          rotate_left
          · ((intro w8 _; go_simp); try with_reducible rfl)
          try simp only [Act.put]
          try simp only [List.setIfInBounds_toArray]
          try simp only [List.set_cons_succ]
          try simp only [List.set_cons_zero]
          refine takeP (i := 9) (d := some 37) (v := ?_) rfl rfl (by kernel_rfl) (by kernel_rfl) (by kernel_rfl) (by kernel_rfl) (by kernel_rfl) (fun _ _ _ h => h) (Or.inl ⟨by rfl, ?_⟩) (by first | exact Or.inr (by assumption) | exact Or.inl (by kernel_rfl)) ?_
          rotate_left
          · ((intro w8 _; go_simp); try with_reducible rfl)
          try simp only [Act.put]
          try simp only [List.setIfInBounds_toArray]
          try simp only [List.set_cons_succ]
          try simp only [List.set_cons_zero]
          refine takeL (i := 10) (d := some 38) (v := ?_) rfl rfl (by kernel_rfl) (by kernel_rfl) (by kernel_rfl) (by kernel_rfl) (by kernel_rfl) (fun _ _ _ h => h) (Or.inl ⟨by rfl, ?_⟩) (by assumption) ?_
          rotate_left
          · ((intro w8 hSw; rw [HS.out] at hSw; obtain ⟨y1, y2, y3, y4, y5, y6⟩ := hSw; go_simp); try with_reducible rfl)
          try simp only [Act.put]
          try simp only [List.setIfInBounds_toArray]
          try simp only [List.set_cons_succ]
          try simp only [List.set_cons_zero]
          refine takeP (i := 11) (d := some 39) (v := ?_) rfl rfl (by kernel_rfl) (by kernel_rfl) (by kernel_rfl) (by kernel_rfl) (by kernel_rfl) (fun _ _ _ h => h) (Or.inl ⟨by rfl, ?_⟩) (by first | exact Or.inr (by assumption) | exact Or.inl (by kernel_rfl)) ?_
          rotate_left
          · ((intro w8 _; go_simp); try with_reducible rfl)
          try simp only [Act.put]
          try simp only [List.setIfInBounds_toArray]
          try simp only [List.set_cons_succ]
          try simp only [List.set_cons_zero]
          refine takeL (i := 12) (d := some 40) (v := ?_) rfl rfl (by kernel_rfl) (by kernel_rfl) (by kernel_rfl) (by kernel_rfl) (by kernel_rfl) (fun _ _ _ h => h) (Or.inl ⟨by rfl, ?_⟩) (by assumption) ?_
          rotate_left
          · ((intro w8 hSw; rw [HS.out] at hSw; obtain ⟨y1, y2, y3, y4, y5, y6⟩ := hSw; go_simp); try with_reducible rfl)
          try simp only [Act.put]
          try simp only [List.setIfInBounds_toArray]
          try simp only [List.set_cons_succ]
          try simp only [List.set_cons_zero]
          refine takeP (i := 13) (d := some 41) (v := ?_) rfl rfl (by kernel_rfl) (by kernel_rfl) (by kernel_rfl) (by kernel_rfl) (by kernel_rfl) (fun _ _ _ h => h) (Or.inl ⟨by rfl, ?_⟩) (by first | exact Or.inr (by assumption) | exact Or.inl (by kernel_rfl)) ?_
          rotate_left
          · ((intro w8 _; go_simp); try with_reducible rfl)
          try simp only [Act.put]
          try simp only [List.setIfInBounds_toArray]
          try simp only [List.set_cons_succ]
          try simp only [List.set_cons_zero]
          refine takeP (i := 14) (d := some 42) (v := ?_) rfl rfl (by kernel_rfl) (by kernel_rfl) (by kernel_rfl) (by kernel_rfl) (by kernel_rfl) (fun _ _ _ h => h) (Or.inl ⟨by rfl, ?_⟩) (by first | exact Or.inr (by assumption) | exact Or.inl (by kernel_rfl)) ?_
          rotate_left
          · ((intro w8 _; go_simp); try with_reducible rfl)
          try simp only [Act.put]
          try simp only [List.setIfInBounds_toArray]
          try simp only [List.set_cons_succ]
          try simp only [List.set_cons_zero]
          refine takeL (i := 15) (d := some 43) (v := ?_) rfl rfl (by kernel_rfl) (by kernel_rfl) (by kernel_rfl) (by kernel_rfl) (by kernel_rfl) (fun _ _ _ h => h) (Or.inl ⟨by rfl, ?_⟩) (by assumption) ?_
          rotate_left
          · ((intro w8 hSw; rw [HS.out] at hSw; obtain ⟨y1, y2, y3, y4, y5, y6⟩ := hSw; go_simp); try with_reducible rfl)
          try simp only [Act.put]
          try simp only [List.setIfInBounds_toArray]
          try simp only [List.set_cons_succ]
          try simp only [List.set_cons_zero]
          refine takeP (i := 16) (d := some 44) (v := ?_) rfl rfl (by kernel_rfl) (by kernel_rfl) (by kernel_rfl) (by kernel_rfl) (by kernel_rfl) (fun _ _ _ h => h) (Or.inl ⟨by rfl, ?_⟩) (by first | exact Or.inr (by assumption) | exact Or.inl (by kernel_rfl)) ?_
          rotate_left
          · ((intro w8 _; go_simp); try with_reducible rfl)
          try simp only [Act.put]
          try simp only [List.setIfInBounds_toArray]
          try simp only [List.set_cons_succ]
          try simp only [List.set_cons_zero]
          refine outL (i := 17) rfl (by kernel_rfl) (by kernel_rfl) (fun K8 hK8 => ?_)
          go_simp

          refine hK8 _ _ ?_
          try simp only [Act.put]
          try simp only [List.setIfInBounds_toArray]
          try simp only [List.set_cons_succ]
          try simp only [List.set_cons_zero]
          refine outL (i := 18) rfl (by kernel_rfl) (by kernel_rfl) (fun K8 hK8 => ?_)
          refine step_append_lies _ rfl (.tmp 28) (.tmp 45) 25 rfl w0.heap.size 42 i0 (.agg #[.int .i64 0, .int .i64 0, .int .i64 0]) 3 24 Tryz.underlying25 hi0 hz0 hz1 hz2 rfl (by decide) _ L.length (aC L) rfl HO.out ⟨wr.heap.size, 0, none⟩ 1 1 (aE (n, t, e)) rfl rfl (World.news_of_block (by exact heap_alloc_new wr _)) (one_adj _) (by decide) (by unfold maxLen; omega) (by omega) (by simp; omega) (wr.heap.size + 1) (by simp) ?_
          intro g' cap' w5 hown5 hgrow hat _
          refine hK8 _ _ ?_
          try simp only [Act.put]
          try simp only [List.setIfInBounds_toArray]
          try simp only [List.set_cons_succ]
          try simp only [List.set_cons_zero]
          refine takeP (i := 19) (d := some 3) (v := ?_) rfl rfl (by kernel_rfl) (by kernel_rfl) (by kernel_rfl) (by kernel_rfl) (by kernel_rfl) (fun _ _ _ h => h) (Or.inl ⟨by rfl, ?_⟩) (by first | exact Or.inr (by assumption) | exact Or.inl (by kernel_rfl)) ?_
          rotate_left
          · ((intro w8 _; go_simp); try with_reducible rfl)
          try simp only [Act.put]
          try simp only [List.setIfInBounds_toArray]
          try simp only [List.set_cons_succ]
          try simp only [List.set_cons_zero]
          refine lst_done (by kernel_rfl) ?_ _
          have HG := Lib.hid (fuw_grown (hF.out.trans ((fuwA wr (.cells #[.int .i64 n, .int .i64 t, .int .i64 e] 42)).drew)) HO.out hgrow)
          have HO2 := Lib.hid (show OwnJ w0 w5 (.slice (some ⟨g', 0, none⟩) (L.length + 1) cap') (L1 ++ segL n c.ts c.es f (m + 1)) from by
            unfold OwnJ
            rw [HSeg2.out, aC_app, List.length_append]; exact hown5)
          clear hown5 hgrow HO hat d1' d2' d3' d4' cn' cf' cg' ct ce
          go_wp2
          go_roundw
          case rel => exact ⟨m + 1, by go_num, by omega, HO2, HG⟩
          case measure => simp [RowKit.intOf]; omega
        · have hge : ¬ (f : Int) + (m : Int) < (g : Int) := by omega
          have e : m = g - f := by omega
          have HO2 := Lib.hid (show OwnJ w0 wr _ (entN c (i + 1)) from by rw [HS1.out, HRow.out, ← e]; exact hown.out)
          clear e
          go_wp2
          go_roundw
          case rel => exact ⟨i + 1, by go_num, by omega, HO2, hF⟩
          case measure => simp [RowKit.intOf]; omega
    · have e : i = c.ns.length := by omega
      have HL2 := Lib.hid (show entN c i = entL c by rw [e]; rfl)
      generalize entN c i = L1 at *
      have hge : ¬ (i : Int) < (c.ns.length : Int) := by omega
      clear e
      go_wp2
      go_ret
      exact ⟨_, rfl, by rw [← HL2.out]; exact own_le (own_on hown.out (Fuw.refl _)) F0.out.size, F0.out.trans hF.out⟩
end Go.Proofs.YtpjikijfendmhaaGreat
