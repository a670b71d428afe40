
/-
  Package column: all entries of a column, the entries of a node. Nothing that was there turns.
-/
import Derived.Test.YtpjikijfendmhaaGreatCoV2
namespace Go.Proofs.YtpjikijfendmhaaGreat
open Go.RowKit

theorem valC_b {c : Cm} (h : valC c = true) : bndB c = true := (valC_iff.1 h).b
set_option maxHeartbeats 3200000 in
set_option maxRecDepth 100000 in
theorem entc_any (c : Cm) (A : CA) (w : World) (hC : CIn w c A) (hs : Sm c) : Calls Tryz.prog 64 #[colv c A] w (RetJ w (entC c)) := by
  obtain ⟨w0, hw0⟩ : ∃ w0, w.alloc (.cells (colC c A) 24) = w0 := ⟨_, rfl⟩
  have B0 := Lib.hid (show Bk w0 w.heap.size (colC c A) 24 by rw [← hw0]; exact Bk.new _ _ _)
  have F0 := Lib.hid (show Fuw w w0 by rw [← hw0]; exact fuwA _ _)
  have HC := Lib.hid (hC.on F0.out)
  have HV := Lib.hid (valid_any c A w0 HC.out hs)
  have HE := Lib.hid (fun w' (hf : Fuw w0 w') (hb : bndB c = true) => ent_any c A w' (HC.out.on hf) hb hs.t)
  have HB := Lib.hid (fun h : valC c = true => valC_b h)
  have HR := Lib.hid (show entC c = if valC c = true then entL c else [] from rfl)
  have d1 := B0.out.c 0; have d2 := B0.out.c 1; have d3 := B0.out.c 2; have d4 := B0.out.c 3
  unfold colv at HV HE ⊢
  unfold colC at d1 d2 d3 d4 hw0 HV HE ⊢
  simp only [List.getElem?_toArray, List.getElem?_cons_zero, List.getElem?_cons_succ] at d1 d2 d3 d4
  clear hC hs
  obtain ⟨R, hRR⟩ : ∃ R, R = entC c := ⟨_, rfl⟩
  rw [← hRR] at HR ⊢
  clear hRR
  obtain ⟨q, hq⟩ : ∃ q, valC c = q := ⟨_, rfl⟩
  rw [hq] at HR HV
  have HQ := Lib.hid hq
  clear hq
  go_enter Tryz.func64, Tryz.ntmps64
  go_upto_region 1 with fail
  clear hw0
  go_wp2_with fail
  go_at_call 31; refine HV.out.mono ?_; rintro e1 w1 ⟨rfl, f1⟩
  have d1' := cellOnw f1 d1; have d2' := cellOnw f1 d2; have d3' := cellOnw f1 d3; have d4' := cellOnw f1 d4
  have F1 := Lib.hid f1
  clear f1 d1 d2 d3 d4
  cases q with
  | false =>
    have HZ := Lib.hid (show R = [] by rw [HR.out]; simp)
    go_wp2
    go_ret
    exact ⟨_, rfl, by rw [HZ.out]; exact World.ownsRow_nil _ _ _ _, F0.out.trans F1.out⟩
  | true =>
    have HZ := Lib.hid (show R = entL c by rw [HR.out]; simp)
    generalize entL c = L at *
    go_wp2_with fail
    go_at_call 72; refine (HE.out _ F1.out (HB.out HQ.out)).mono ?_; rintro e2 w2 ⟨v, rfl, ho, f2⟩
    have HO := Lib.hid ho
    have F2 := Lib.hid (F1.out.trans f2)
    clear ho f2
    go_wp2
    go_ret
    exact ⟨_, rfl, by rw [HZ.out]; exact own_le HO.out (Nat.le_trans F0.out.size F1.out.size), F0.out.trans F2.out⟩
theorem bsearch_at {l : List Int} {x : Int} (hi : incI l = true) (hx : l.contains x = true) : ∃ h : l.countP (fun y => decide (y < x)) < l.length, l[l.countP (fun y => decide (y < x))] = x := by
  have hp := incI_iff.1 hi
  have hm : x ∈ l := by simpa using hx
  clear hi hx
  induction l with
  | nil => cases hm
  | cons a r ih =>
    obtain ⟨h1, h2⟩ := List.pairwise_cons.1 hp
    rcases List.mem_cons.1 hm with e | k
    · subst e
      have h0 : (x :: r).countP (fun y => decide (y < x)) = 0 := by
        rw [List.countP_eq_zero]
        intro y hy
        rcases List.mem_cons.1 hy with e | k
        · subst e; simp
        · have := h1 y k; simp; omega
      refine ⟨by rw [h0]; simp, ?_⟩
      simp only [h0]; rfl
    · have hax := h1 x k
      obtain ⟨g1, g2⟩ := ih h2 k
      have h0 : (a :: r).countP (fun y => decide (y < x)) = r.countP (fun y => decide (y < x)) + 1 := by
        rw [List.countP_cons_of_pos (by simpa using hax)]
      refine ⟨by rw [h0, List.length_cons]; omega, ?_⟩
      simp only [h0, List.getElem_cons_succ]; exact g2
/-- slices.BinarySearch of increasing ints. -/
def RetBs (w : World) (l : List Int) (x : Int) (e : Ending) (w' : World) : Prop := e = .returned (.tuple #[.int .i64 (l.countP fun y => decide (y < x) : Nat), .bool (l.contains x)]) ∧ ∃ q, w' = w.drewN q
theorem bsl_any (l : List Int) (ao : Option Addr) (cap : Nat) (x : Int) (w : World) (hs : SlI w ao l cap) (hi : l.Pairwise (· ≤ ·)) (hl : l.length ≤ 1000000) :
    Calls Tryz.prog 51 #[.slice ao l.length cap, .int .i64 x] w (RetBs w l x) := by
  rcases Nat.eq_zero_or_pos l.length with h0 | h0
  · have e := List.length_eq_zero_iff.1 h0
    subst e
    refine (Tryz.slices_BinarySearch_int_empty ao cap x w).mono ?_
    rintro e w' ⟨rfl, rfl⟩
    exact ⟨rfl, 0, rfl⟩
  · obtain ⟨b, o, rfl, hc⟩ := hs.at_ h0
    refine (Tryz.slices_BinarySearch_int b o l.length cap l x w (Nat.le_refl _) (by omega) (fun j hj => ?_) ?_).mono ?_
    · have := (hc j hj).2
      rw [Nat.mul_one] at this
      rw [this, gd hj]
    · rw [List.take_length]
      exact hi
    · rintro e w' ⟨rfl, q, rfl⟩
      rw [List.take_length]
      exact ⟨rfl, q, rfl⟩
theorem bs_any (l : List Int) (ao : Option Addr) (cap : Nat) (x : Int) (w : World) (hs : SlI w ao l cap) (hi : incI l = true) (hl : l.length ≤ 1000000) :
    Calls Tryz.prog 51 #[.slice ao l.length cap, .int .i64 x] w (RetBs w l x) := bsl_any l ao cap x w hs ((incI_iff.1 hi).imp fun h => Int.le_of_lt h) hl
set_option maxHeartbeats 3200000 in
set_option maxRecDepth 100000 in
theorem rowc_any (c : Cm) (A : CA) (n : Int) (w : World) (hC : CIn w c A) (hs : Sm c) : Calls Tryz.prog 50 #[colv c A, .int .i64 n] w (RetJ w (rowC c n)) := by
  obtain ⟨w0, hw0⟩ : ∃ w0, w.alloc (.cells (colC c A) 24) = w0 := ⟨_, rfl⟩
  have B0 := Lib.hid (show Bk w0 w.heap.size (colC c A) 24 by rw [← hw0]; exact Bk.new _ _ _)
  have F0 := Lib.hid (show Fuw w w0 by rw [← hw0]; exact fuwA _ _)
  have HC := Lib.hid (hC.on F0.out)
  have HV := Lib.hid (valid_any c A w0 HC.out hs)
  have HS := Lib.hid (fun w' (hf : Fuw w0 w') (h : valC c = true) => bs_any c.ns A.a1 A.k1 n w' (slI_on hf HC.out.n) (valC_iff.1 h).i hs.n)
  have HE := Lib.hid (fun w' (hf : Fuw w0 w') (h : valC c = true) (i : Nat) (hi : i < c.ns.length) => row_any c A i w' (HC.out.on hf) (valC_iff.1 h).b hi hs.t)
  have HP := Lib.hid (fun (h : valC c = true) (k : c.ns.contains n = true) => bsearch_at (valC_iff.1 h).i k)
  have HR := Lib.hid (show rowC c n = if valC c = true then rowAt c n else [] from rfl)
  have HY := Lib.hid (fun (h : valC c = true) (i : Nat) (hi : i < c.ns.length) (e : c.ns[i] = n) => show rowAt c n = rowL c i by rw [← e]; exact rowAt_at (valC_iff.1 h).i hi)
  have HN := Lib.hid (fun (k : c.ns.contains n = false) => show rowAt c n = [] from rowAt_no fun h => by rw [List.contains_iff_mem.2 h] at k; cases k)
  have d1 := B0.out.c 0; have d2 := B0.out.c 1; have d3 := B0.out.c 2; have d4 := B0.out.c 3
  unfold colv at HV HE ⊢
  unfold colC at d1 d2 d3 d4 hw0 HV HE ⊢
  simp only [List.getElem?_toArray, List.getElem?_cons_zero, List.getElem?_cons_succ] at d1 d2 d3 d4
  have D1 := Lib.hid d1; have D2 := Lib.hid d2; have D3 := Lib.hid d3; have D4 := Lib.hid d4
  clear hC hs
  obtain ⟨R, hRR⟩ : ∃ R, R = rowC c n := ⟨_, rfl⟩
  rw [← hRR] at HR ⊢
  clear hRR
  obtain ⟨q, hq⟩ : ∃ q, valC c = q := ⟨_, rfl⟩
  rw [hq] at HR HV
  have HQ := Lib.hid hq
  clear hq
  go_enter Tryz.func50, Tryz.ntmps50
  go_upto_region 1 with fail
  clear hw0
  go_wp2_with fail
  go_at_call 31; refine HV.out.mono ?_; rintro e1 w1 ⟨rfl, f1⟩
  replace d1 := cellOnw f1 D1.out; replace d2 := cellOnw f1 D2.out; replace d3 := cellOnw f1 D3.out; replace d4 := cellOnw f1 D4.out
  have F1 := Lib.hid f1
  clear f1
  cases q with
  | false =>
    have HZ := Lib.hid (show R = [] by rw [HR.out]; simp)
    go_wp2
    go_ret
    exact ⟨_, rfl, by rw [HZ.out]; exact World.ownsRow_nil _ _ _ _, F0.out.trans F1.out⟩
  | true =>
    have HZ := Lib.hid (show R = rowAt c n by rw [HR.out]; simp)
    obtain ⟨k, hk⟩ : ∃ k, c.ns.contains n = k := ⟨_, rfl⟩
    have HB := Lib.hid (HS.out w1 F1.out HQ.out)
    unfold RetBs at HB
    rw [hk] at HB
    have HK := Lib.hid hk
    obtain ⟨i, hi⟩ : ∃ i, i = c.ns.countP fun y => decide (y < n) := ⟨_, rfl⟩
    rw [← hi] at HB
    have HI := Lib.hid hi
    clear hk hi
    go_wp2_with fail
    go_at_call 51; refine HB.out.mono ?_; rintro e2 w2 ⟨rfl, hd⟩
    have F2 := Lib.hid (F1.out.trans (quF hd))
    replace d1 := cellOnw F2.out D1.out; replace d2 := cellOnw F2.out D2.out; replace d3 := cellOnw F2.out D3.out; replace d4 := cellOnw F2.out D4.out
    clear hd
    cases k with
    | false =>
      have HZ2 := Lib.hid (show R = [] by rw [HZ.out, HN.out HK.out])
      go_wp2
      go_ret
      exact ⟨_, rfl, by rw [HZ2.out]; exact World.ownsRow_nil _ _ _ _, F0.out.trans F2.out⟩
    | true =>
      have HX := Lib.hid (show ∃ h : i < c.ns.length, c.ns[i] = n by have := HP.out HQ.out HK.out; rw [← HI.out] at this; exact this)
      have HL := Lib.hid (show i < c.ns.length from HX.out.1)
      have HZ2 := Lib.hid (show R = rowL c i by rw [HZ.out]; exact HY.out HQ.out i HL.out HX.out.2)
      have HG := Lib.hid (HE.out w2 F2.out HQ.out i HL.out)
      generalize rowL c i = L at *
      go_wp2_with fail
      go_at_call 87; refine HG.out.mono ?_; rintro e3 w3 ⟨v, rfl, ho, f3⟩
      have HO := Lib.hid ho
      have F3 := Lib.hid (F2.out.trans f3)
      clear ho f3
      go_wp2
      go_ret
      exact ⟨_, rfl, by rw [HZ2.out]; exact own_le HO.out (Nat.le_trans F0.out.size F2.out.size), F0.out.trans F3.out⟩
end Go.Proofs.YtpjikijfendmhaaGreat
