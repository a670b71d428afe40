
/-
  Package overlay: New. Lists with one element set in or taken out. Nothing that was there turns.
-/
import Derived.Test.YtpjikijfendmhaaGreatOvM2
namespace Go.Proofs.YtpjikijfendmhaaGreat
open Go.RowKit

/-- An overlay and an error code. -/
def RetO (w : World) (p : Ov × Int) (e : Ending) (w' : World) : Prop := ∃ A, e = .returned (.tuple #[ovv p.1 A, .int .i64 p.2]) ∧ OIn w' p.1 A ∧ Fuw w w'
def A0 : OA := ⟨⟨none, none, none, none, 0, 0, 0, 0⟩, none, none, 0, 0⟩
theorem em_in (w : World) : OIn w emO A0 := ⟨⟨Sl.empty _, Sl.empty _, Sl.empty _, Sl.empty _⟩, Sl.empty _, Sl.empty _⟩
def emV : Array Value := #[.slice none 0 0, .slice none 0 0, .slice none 0 0, .slice none 0 0, .slice none 0 0, .slice none 0 0]
theorem em_bk {w : World} {B : Nat} (h : Bk w B emV 27) : OB w B emO A0 := ⟨h⟩
theorem aC_take : ∀ (l : List Aj) (i : Nat), (aC l).take (i * 3) = aC (l.take i)
  | [], i => by simp [aC]
  | x :: r, 0 => rfl
  | x :: r, i + 1 => by
    show (aE x ++ aC r).take ((i + 1) * 3) = aE x ++ aC (r.take i)
    rw [show (i + 1) * 3 = (aE x).length + i * 3 by show _ = 3 + i * 3; omega, List.take_length_add_append, aC_take r i]
theorem aC_drop : ∀ (l : List Aj) (i : Nat), (aC l).drop (i * 3) = aC (l.drop i)
  | [], i => by simp [aC]
  | x :: r, 0 => rfl
  | x :: r, i + 1 => by
    show (aE x ++ aC r).drop ((i + 1) * 3) = aC (r.drop i)
    rw [show (i + 1) * 3 = (aE x).length + i * 3 by show _ = 3 + i * 3; omega, List.drop_length_add_append, aC_drop r i]
theorem cs_take (l : List Int) (i : Nat) : (cs l).take (i * 1) = cs (l.take i) := by
  unfold cs
  rw [Nat.mul_one, List.map_take]
theorem cs_drop (l : List Int) (i : Nat) : (cs l).drop (i * 1) = cs (l.drop i) := by
  unfold cs
  rw [Nat.mul_one, List.map_drop]
theorem drop_nd {α : Type} [DecidableEq α] {β : Type} [DecidableEq β] (f : α → β) : ∀ {l : List α} {i : Nat} (h : i < l.length), (l.map f).Nodup → l.take i ++ l.drop (i + 1) = l.filter fun x => decide (f x ≠ f l[i])
  | x :: r, 0, _, hd => by
    obtain ⟨h1, -⟩ := List.nodup_cons.1 hd
    show r = _
    rw [List.filter_cons_of_neg (by simp), List.filter_eq_self.2]
    intro y hy
    have : f y ≠ f x := fun e => h1 (by rw [← e]; exact List.mem_map_of_mem hy)
    simpa using this
  | x :: r, i + 1, h, hd => by
    obtain ⟨h1, h2⟩ := List.nodup_cons.1 hd
    have h' : i < r.length := by simpa using h
    have e : f x ≠ f r[i] := fun e => h1 (by rw [e]; exact List.mem_map_of_mem (List.getElem_mem h'))
    have I := drop_nd f h' h2
    show x :: (r.take i ++ r.drop (i + 1)) = _
    rw [List.filter_cons_of_pos (by simpa using e), I]; rfl
theorem dropI_at {l : List Int} (hi : incI l = true) {i : Nat} (h : i < l.length) : l.take i ++ l.drop (i + 1) = dropI l l[i] := by
  have hd : (l.map id).Nodup := by
    rw [List.map_id]
    exact (incI_iff.1 hi).imp fun k e => by subst e; exact absurd k (Int.lt_irrefl _)
  exact drop_nd id h hd
theorem dropJ_at {l : List Aj} (hd : (edg l).Nodup) {i : Nat} (h : i < l.length) : l.take i ++ l.drop (i + 1) = dropJ l l[i].2.2 := drop_nd (fun x : Aj => x.2.2) h hd
theorem putI_at : ∀ {l : List Int} {n : Int}, incI l = true → l.contains n = false → l.take (l.countP fun y => decide (y < n)) ++ [n] ++ l.drop (l.countP fun y => decide (y < n)) = putI l n
  | [], n, _, _ => rfl
  | x :: r, n, hi, hn => by
    have hp := List.pairwise_cons.1 (incI_iff.1 hi)
    have hn' := contains_false.1 hn
    have hx : x ≠ n := fun e => hn' (by rw [e]; exact List.mem_cons_self)
    have hr : r.contains n = false := contains_false.2 fun k => hn' (List.mem_cons_of_mem _ k)
    unfold putI
    by_cases g : x < n
    · rw [if_pos g, List.countP_cons_of_pos (by simpa using g)]
      show x :: (r.take _ ++ [n] ++ r.drop _) = _
      rw [putI_at (incI_iff.2 hp.2) hr]
    · rw [if_neg g]
      have h0 : (x :: r).countP (fun y => decide (y < n)) = 0 := by
        rw [List.countP_eq_zero]
        intro y hy
        rcases List.mem_cons.1 hy with e | k
        · subst e; simpa using g
        · have := hp.1 y k; simp; omega
      rw [h0]; rfl
theorem cs_one (l : List Int) : ∀ u ∈ cs l, u.oneCell' = true := by
  intro u hu
  unfold cs at hu
  obtain ⟨x, -, rfl⟩ := List.mem_map.1 hu
  rfl
set_option maxHeartbeats 6400000 in
set_option maxRecDepth 100000 in
theorem newo_any (c : Cm) (A : CA) (w : World) (hC : CIn w c A) (ht : Tiny ⟨c, [], []⟩) : Calls Tryz.prog 10 #[colv c A] w (RetO w (newV c)) := by
  obtain ⟨w0, hw0⟩ : ∃ w0, w.alloc (.cells (colC c A) 24) = w0 := ⟨_, rfl⟩
  obtain ⟨w1, hw1⟩ : ∃ w1, w0.alloc (.cells #[.slice none 0 0, .slice none 0 0, .slice none 0 0, .slice none 0 0, .slice none 0 0, .slice none 0 0] 27) = w1 := ⟨_, rfl⟩
  have F0 := Lib.hid (show Fuw w w0 by rw [← hw0]; exact fuwA _ _)
  have F1 := Lib.hid (show Fuw w0 w1 by rw [← hw1]; exact fuwA _ _)
  have B0 := Lib.hid (show Bk w0 w.heap.size (colC c A) 24 by rw [← hw0]; exact Bk.new _ _ _)
  have B1 := Lib.hid (show Bk w1 w0.heap.size emV 27 by rw [← hw1]; exact Bk.new _ _ _)
  have HS1 := Lib.hid (show w0.heap.size < w1.heap.size by rw [← hw1]; simp)
  have HC := Lib.hid (hC.on (F0.out.trans F1.out))
  have HV := Lib.hid (valid_any c A w1 HC.out ht.sm.c)
  have HCl := Lib.hid (fun w' (hf : Fuw w1 w') => cloneo_any ⟨c, [], []⟩ ⟨A, none, none, 0, 0⟩ w' ⟨HC.out.on hf, Sl.empty _, Sl.empty _⟩ ht)
  have HI := Lib.hid (show I64O ⟨c, [], []⟩ from ⟨slI_i64 hC.n, slI_i64 hC.f, slI_i64 hC.t, slI_i64 hC.e, fun x hx => absurd hx (by simp), fun x hx => absurd hx (by simp)⟩)
  obtain ⟨R, hR⟩ : ∃ R, R = newV c := ⟨_, rfl⟩
  have HR := Lib.hid (show R = if valC c = true then (⟨c, [], []⟩, 0) else (emO, 1) from hR)
  rw [← hR]
  have d1 := cellOnw F1.out (B0.out.c 0); have d2 := cellOnw F1.out (B0.out.c 1); have d3 := cellOnw F1.out (B0.out.c 2); have d4 := cellOnw F1.out (B0.out.c 3)
  unfold colv at HV ⊢
  unfold colC at hw0 HV ⊢
  unfold ovv ovC RetCl at HCl
  simp only [List.length_nil] at HCl
  clear hC hR
  generalize valC c = q at *
  go_enter Tryz.func10, Tryz.ntmps10
  go_upto_region 1 with fail
  clear hw0 hw1
  go_wp2_with fail
  go_at_call 31; refine HV.out.mono ?_; rintro e1 w2 ⟨rfl, f1⟩
  have D1 := Lib.hid d1; have D2 := Lib.hid d2; have D3 := Lib.hid d3; have D4 := Lib.hid d4
  have G1 := Lib.hid f1
  replace d1 := cellOnw G1.out D1.out; replace d2 := cellOnw G1.out D2.out; replace d3 := cellOnw G1.out D3.out; replace d4 := cellOnw G1.out D4.out
  clear f1
  cases q with
  | false =>
    have HZ := Lib.hid (show R = (emO, 1) by rw [HR.out]; simp)
    have E := B1.out.on G1.out
    unfold emV at E
    have q0 := E.c 0; have q1 := E.c 1; have q2 := E.c 2; have q3 := E.c 3; have q4 := E.c 4; have q5 := E.c 5
    have t0 := E.f 0; have t1 := E.f 1; have t2 := E.f 2; have t3 := E.f 3; have t4 := E.f 4; have t5 := E.f 5
    simp only [List.getElem?_toArray, List.getElem?_cons_zero, List.getElem?_cons_succ] at q0 q1 q2 q3 q4 q5
    have HE := Lib.hid E
    have z2 := G1.out.size
    clear E d1 d2 d3 d4
    go_wp2
    refine o_ret2 rfl rfl rfl (o := emO) (A := A0) ⟨(((((HE.out.set_ 0 (.slice none 0 0)).set_ 1 (.slice none 0 0)).set_ 2 (.slice none 0 0)).set_ 3 (.slice none 0 0)).set_ 4 (.slice none 0 0)).set_ 5 (.slice none 0 0)⟩ ?_
    rw [HZ.out]
    have hb := F0.out.size
    exact ⟨A0, rfl, em_in _, fuwS (fuwS (fuwS (fuwS (fuwS (fuwS (F0.out.trans (F1.out.trans G1.out)) hb) hb) hb) hb) hb) hb⟩
  | true =>
    have HZ := Lib.hid (show R = (⟨c, [], []⟩, 0) by rw [HR.out]; simp)
    go_wp2_with fail
    go_at_call 32; refine (HCl.out _ G1.out).mono ?_; rintro e2 w3 ⟨A', lo, m5, m6, rfl, how, hlo, f3⟩
    have G3 := Lib.hid f3
    have HO := Lib.hid how
    have HL := Lib.hid hlo
    have E := (B1.out.on G1.out).on G3.out
    unfold emV at E
    have q0 := E.c 0; have q1 := E.c 1; have q2 := E.c 2; have q3 := E.c 3; have q4 := E.c 4; have q5 := E.c 5
    have t0 := E.f 0; have t1 := E.f 1; have t2 := E.f 2; have t3 := E.f 3; have t4 := E.f 4; have t5 := E.f 5
    simp only [List.getElem?_toArray, List.getElem?_cons_zero, List.getElem?_cons_succ] at q0 q1 q2 q3 q4 q5
    have HE := Lib.hid E
    clear E d1 d2 d3 d4 f3 how hlo
    unfold ovv ovC
    simp only [List.length_nil]
    go_wp2
    refine o_ret2 rfl rfl rfl (o := ⟨c, [], []⟩) (A := A') ⟨(((((HE.out.set_ 0 (.slice A'.c.a1 c.ns.length A'.c.k1)).set_ 1 (.slice A'.c.a2 c.fs.length A'.c.k2)).set_ 2 (.slice A'.c.a3 c.ts.length A'.c.k3)).set_ 3 (.slice A'.c.a4 c.es.length A'.c.k4)).set_ 4 (.slice A'.a5 0 A'.k5)).set_ 5 (.slice A'.a6 0 A'.k6)⟩ ?_
    rw [HZ.out]
    have hb := F0.out.size
    have hb2 : w0.heap.size < lo := Nat.lt_of_lt_of_le HS1.out (Nat.le_trans G1.out.size HL.out)
    refine ⟨A', rfl, ?_, fuwS (fuwS (fuwS (fuwS (fuwS (fuwS (F0.out.trans (F1.out.trans (G1.out.trans G3.out))) hb) hb) hb) hb) hb) hb⟩
    refine (HO.out.keep (g := some w0.heap.size) (grown_trans (grown_trans (grown_trans (grown_trans (grown_trans (grown_set _ _ _ _) (grown_set _ _ _ _)) (grown_set _ _ _ _)) (grown_set _ _ _ _)) (grown_set _ _ _ _)) (grown_set _ _ _ _)) (fun k e => by cases e; left; omega)).in_ HI.out
end Go.Proofs.YtpjikijfendmhaaGreat
