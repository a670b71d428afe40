
/-
  Package column: the entries of a row, all entries, whether entries are in order. Nothing that was there turns.
-/
import Derived.Test.YtpjikijfendmhaaGreatCoA
import Derived.Test.YtpjikijfendmhaaGreatCoM2
import Derived.Test.YtpjikijfendmhaaGreatTl
import Derived.Deep.RegionLaw
namespace Go.Proofs.YtpjikijfendmhaaGreat
open Go.RowKit

/-- Where the four slices of a column lie. -/
structure CA where
  a1 : Option Addr
  a2 : Option Addr
  a3 : Option Addr
  a4 : Option Addr
  k1 : Nat
  k2 : Nat
  k3 : Nat
  k4 : Nat
/-- A column as the model has it. -/
def colC (c : Cm) (A : CA) : Array Value := #[.slice A.a1 c.ns.length A.k1, .slice A.a2 c.fs.length A.k2, .slice A.a3 c.ts.length A.k3, .slice A.a4 c.es.length A.k4]
def colv (c : Cm) (A : CA) : Value := .agg (colC c A)
structure CIn (w : World) (c : Cm) (A : CA) : Prop where
  n : SlI w A.a1 c.ns A.k1
  f : SlI w A.a2 c.fs A.k2
  t : SlI w A.a3 c.ts A.k3
  e : SlI w A.a4 c.es A.k4
theorem CIn.on {w w' : World} {c : Cm} {A : CA} (h : CIn w c A) (hf : Fuw w w') : CIn w' c A := ⟨slI_on hf h.n, slI_on hf h.f, slI_on hf h.t, slI_on hf h.e⟩
theorem slI_i64 {w : World} {ao : Option Addr} {l : List Int} {cap : Nat} (h : SlI w ao l cap) : ∀ x ∈ l, I64 x := fun x hx => by
  obtain ⟨i, hi, rfl⟩ := List.getElem_of_mem hx
  obtain ⟨b, o, -, hp⟩ := h.get hi
  exact hp.1
theorem i64_gd {l : List Int} (h : ∀ x ∈ l, I64 x) (i : Nat) : I64 (l.getD i 0) := by
  rcases Nat.lt_or_ge i l.length with k | k
  · rw [gd k]; exact h _ (List.getElem_mem k)
  · rw [List.getD_eq_getElem?_getD, List.getElem?_eq_none k]; exact ⟨by decide, by decide⟩
/-- A row of the call's own that holds entries. -/
def OwnJ (w0 w : World) (v : Value) (L : List Aj) : Prop := w.ownsRow w0.heap.size 42 3 v L.length (aC L)
def RetJ (w : World) (L : List Aj) (e : Ending) (w' : World) : Prop := ∃ v, e = .returned v ∧ OwnJ w w' v L ∧ Fuw w w'
theorem own_le {w : World} {base base' e size n : Nat} {v : Value} {xs : List Value} (h : w.ownsRow base e size v n xs) (hb : base' ≤ base) : w.ownsRow base' e size v n xs :=
  ⟨h.1, h.2.imp id fun ⟨g, cap, cur, q, k, r⟩ => ⟨g, cap, cur, q, Nat.le_trans hb k, r⟩⟩
/-- Behind an append to a row of the call's own nothing that was there has turned. -/
theorem fuw_grown {w0 w w' : World} {e size n : Nat} {v : Value} {xs : List Value} (h : Fuw w0 w) (ho : w.ownsRow w0.heap.size e size v n xs) (hg : w.grownBy w' v.ownBlock) : Fuw w0 w' :=
  Below.grown h hg h.size (fun k hk => (ho.lt k hk).1)
theorem one_adj (x : Aj) : ∀ u ∈ aE x, u.oneCell' = true := by
  intro u hu
  simp [aE] at hu
  rcases hu with rfl | rfl | rfl <;> rfl

set_option maxHeartbeats 6400000 in
set_option maxRecDepth 100000 in
theorem row_any (c : Cm) (A : CA) (i : Nat) (w : World) (hC : CIn w c A) (hb : bndB c = true) (hi : i < c.ns.length) (hl : c.ts.length ≤ 1000000) :
    Calls Tryz.prog 87 #[colv c A, .int .i64 i] w (RetJ w (rowL c i)) := by
  obtain ⟨q1, q2, q3, q4, q5⟩ := bnd_at hb hi
  obtain ⟨w0, hw0⟩ : ∃ w0, w.alloc (.cells (colC c A) 24) = w0 := ⟨_, rfl⟩
  have B0 := Lib.hid (show Bk w0 w.heap.size (colC c A) 24 by rw [← hw0]; exact Bk.new _ _ _)
  have F0 := Lib.hid (show Fuw w w0 by rw [← hw0]; exact fuwA _ _)
  have HC := Lib.hid (hC.on F0.out)
  obtain ⟨b1, o1, e1, ⟨hn64, cn⟩⟩ := HC.out.n.get hi
  obtain ⟨b2, o2, e2, ⟨hf64, cf⟩, hg64, cg⟩ := HC.out.f.get2 (show i < c.fs.length by omega) (show i + 1 < c.fs.length by omega)
  rw [gd (show i < c.fs.length by omega)] at q2 q3
  rw [gd (show i + 1 < c.fs.length by omega)] at q3 q4
  have HRow := Lib.hid (show rowL c i = segL c.ns[i] c.ts c.es (c.fs[i]).toNat ((c.fs[i + 1]).toNat - (c.fs[i]).toNat) by
    unfold rowL
    rw [gd hi, gd (show i < c.fs.length by omega), gd (show i + 1 < c.fs.length by omega)])
  rw [Nat.mul_one] at cn cf cg
  have HW := Lib.hid hw0
  have m1 := HC.out.n.cap_
  have m2 := HC.out.f.cap_
  have m3 := HC.out.t.cap_
  have m4 := HC.out.e.cap_
  have l1 := HC.out.n.le
  have l2 := HC.out.f.le
  have l3 := HC.out.t.le
  have l4 := HC.out.e.le
  obtain ⟨n, hn⟩ : ∃ n, c.ns[i] = n := ⟨_, rfl⟩
  obtain ⟨f, hf⟩ : ∃ f : Nat, c.fs[i] = (f : Int) := ⟨c.fs[i].toNat, by omega⟩
  obtain ⟨g, hg⟩ : ∃ g : Nat, c.fs[i + 1] = (g : Int) := ⟨c.fs[i + 1].toNat, by omega⟩
  rw [hn] at cn
  rw [hf] at cf q2 q3
  rw [hg] at cg q3 q4
  rw [hn, hf, hg, show ((f : Int)).toNat = f from rfl, show ((g : Int)).toNat = g from rfl] at HRow
  obtain ⟨i0, hi0, hz0, hz1, hz2⟩ := info_parts infoJ
  have d1 := B0.out.c 0; have d2 := B0.out.c 1; have d3 := B0.out.c 2; have d4 := B0.out.c 3
  have hBl := B0.out.lt
  unfold colv
  unfold colC at d1 d2 d3 d4 hw0 ⊢
  rw [e1] at d1 hw0 ⊢
  rw [e2] at d2 hw0 ⊢
  simp only [List.getElem?_toArray, List.getElem?_cons_zero, List.getElem?_cons_succ] at d1 d2 d3 d4
  have x1 : i < c.fs.length := by omega
  have x2 : i + 1 < c.fs.length := by omega
  have x3 : (i : Int) < (c.fs.length : Int) := by omega
  have x4 : (i : Int) + 1 < (c.fs.length : Int) := by omega
  have x5 : (i : Int) < (c.ns.length : Int) := by omega
  have Q1 := Lib.hid q1
  have Q5 := Lib.hid q5
  clear hn hf hg hn64 hf64 hg64 hC hb q1 q5 e1 e2
  go_enter Tryz.func87, Tryz.ntmps87
  go_upto_region 2 with fail
  clear hw0
  go_wp2
  go_loopw [5, 6] (fun lv kv wr => ∃ m : Nat, kv = .int .i64 ((f : Int) + (m : Int)) ∧ f + m ≤ g ∧ Hid (OwnJ w0 wr lv (segL n c.ts c.es f m)) ∧ Hid (Fuw w0 wr)) (fun _ kv _ => g - (RowKit.intOf kv).toNat)
  case atStart => exact ⟨0, by simp, by omega, Lib.hid (World.ownsRow_nil _ _ _ _), Lib.hid (Fuw.refl _)⟩
  case round =>
    obtain ⟨m, rfl, hm, hown, hF⟩ := hrel
    have d1' := cellOnw hF.out d1; have d2' := cellOnw hF.out d2; have d3' := cellOnw hF.out d3; have d4' := cellOnw hF.out d4
    have cn' := cellOnw hF.out cn; have cf' := cellOnw hF.out cf; have cg' := cellOnw hF.out cg
    by_cases hlt : f + m < g
    · have k3 : f + m < c.ts.length := by omega
      have k4 : f + m < c.es.length := by have := Q5.out; omega
      obtain ⟨b3, o3, e3, ht64, ct⟩ := (slI_on hF.out HC.out.t).get k3
      obtain ⟨b4, o4, e4, he64, ce⟩ := (slI_on hF.out HC.out.e).get k4
      have HSeg := Lib.hid (segL_step n c.ts c.es f m)
      rw [gd k3, gd k4] at HSeg
      generalize c.ts[f + m] = t at *
      generalize c.es[f + m] = e at *
      rw [Nat.mul_one] at ct ce
      rw [e3] at d3'
      rw [e4] at d4'
      clear e3 e4
      have hlt' : (f : Int) + (m : Int) < (g : Int) := by omega
      have z1 : ((f : Int) + (m : Int)).toNat = f + m := by omega
      have z2 : (0 : Int) ≤ (f : Int) + (m : Int) := by omega
      have z3 : (f : Int) + (m : Int) < (c.ts.length : Int) := by omega
      have z4 : (f : Int) + (m : Int) < (c.es.length : Int) := by have := Q5.out; omega
      clear d1 d2 d3 d4 cn cf cg
      obtain ⟨L, hL⟩ : ∃ L, segL n c.ts c.es f m = L := ⟨_, rfl⟩
      rw [hL] at hown HSeg
      have HLen := Lib.hid (show L.length = m by rw [← hL, segL_len])
      clear hL
      have HO := Lib.hid (show (wr.alloc (.cells #[.int .i64 n, .int .i64 t, .int .i64 e] 42)).drew.ownsRow w0.heap.size 42 3 _ L.length (aC L) from own_on hown.out ((fuwA wr (.cells #[.int .i64 n, .int .i64 t, .int .i64 e] 42)).drew))
      have ml : L.length ≤ 1000000 := by have := HLen.out; omega
      have sz : w0.heap.size ≤ wr.heap.size := hF.out.size
      go_upto_region 5 with fail
      obtain ⟨S, hS⟩ : ∃ S : World → Prop, S = (fun w8 => w8.cell? ⟨w.heap.size, 0, none⟩ = some (.slice (some ⟨b1, o1, none⟩) c.ns.length A.k1) ∧ w8.cell? ⟨w.heap.size, 2, none⟩ = some (.slice (some ⟨b3, o3, none⟩) c.ts.length A.k3) ∧ w8.cell? ⟨w.heap.size, 3, none⟩ = some (.slice (some ⟨b4, o4, none⟩) c.es.length A.k4) ∧ w8.cell? ⟨b1, o1 + i, none⟩ = some (.int .i64 n) ∧ w8.cell? ⟨b3, o3 + (f + m), none⟩ = some (.int .i64 t) ∧ w8.cell? ⟨b4, o4 + (f + m), none⟩ = some (.int .i64 e)) := ⟨_, rfl⟩
      have HS := Lib.hid hS
      clear hS
      refine lst_start [17, 18] S (by kernel_rfl) ?_
      have hS0 : S wr.drew := by rw [HS.out]; exact ⟨d1', d3', d4', cn', ct, ce⟩
      refine takeP (i := 0) (d := some 22) (v := ?_) rfl rfl (by kernel_rfl) (by kernel_rfl) (by kernel_rfl) (by kernel_rfl) (by kernel_rfl) (fun _ _ _ h => h) (Or.inl ⟨by rfl, ?_⟩) (by first | exact Or.inr (by assumption) | exact Or.inl (by kernel_rfl)) ?_
      rotate_left
      · ((intro w8 _; go_simp); try with_reducible rfl)
      try simp only [Act.put]
      try simp only [List.setIfInBounds_toArray]
      try simp only [List.set_cons_succ]
      try simp only [List.set_cons_zero]
      refine takeP (i := 1) (d := some 23) (v := ?_) rfl rfl (by kernel_rfl) (by kernel_rfl) (by kernel_rfl) (by kernel_rfl) (by kernel_rfl) (fun _ _ _ h => h) (Or.inl ⟨by rfl, ?_⟩) (by first | exact Or.inr (by assumption) | exact Or.inl (by kernel_rfl)) ?_
      rotate_left
      · ((intro w8 _; go_simp); try with_reducible rfl)
      try simp only [Act.put]
      try simp only [List.setIfInBounds_toArray]
      try simp only [List.set_cons_succ]
      try simp only [List.set_cons_zero]
      refine takeL (i := 2) (d := some 24) (v := ?_) rfl rfl (by kernel_rfl) (by kernel_rfl) (by kernel_rfl) (by kernel_rfl) (by kernel_rfl) (fun _ _ _ h => h) (Or.inl ⟨by rfl, ?_⟩) (by assumption) ?_
      rotate_left
      · ((intro w8 hSw; rw [HS.out] at hSw; obtain ⟨y1, y2, y3, y4, y5, y6⟩ := hSw; go_simp); try with_reducible rfl)
      try simp only [Act.put]
      try simp only [List.setIfInBounds_toArray]
      try simp only [List.set_cons_succ]
      try simp only [List.set_cons_zero]
      refine takeP (i := 3) (d := some 25) (v := ?_) rfl rfl (by kernel_rfl) (by kernel_rfl) (by kernel_rfl) (by kernel_rfl) (by kernel_rfl) (fun _ _ _ h => h) (Or.inl ⟨by rfl, ?_⟩) (by first | exact Or.inr (by assumption) | exact Or.inl (by kernel_rfl)) ?_
      rotate_left
      · ((intro w8 _; go_simp); try with_reducible rfl)
      try simp only [Act.put]
      try simp only [List.setIfInBounds_toArray]
      try simp only [List.set_cons_succ]
      try simp only [List.set_cons_zero]
      refine takeP (i := 4) (d := some 26) (v := ?_) rfl rfl (by kernel_rfl) (by kernel_rfl) (by kernel_rfl) (by kernel_rfl) (by kernel_rfl) (fun _ _ _ h => h) (Or.inl ⟨by rfl, ?_⟩) (by first | exact Or.inr (by assumption) | exact Or.inl (by kernel_rfl)) ?_
      rotate_left
      · ((intro w8 _; go_simp); try with_reducible rfl)
      try simp only [Act.put]
      try simp only [List.setIfInBounds_toArray]
      try simp only [List.set_cons_succ]
      try simp only [List.set_cons_zero]
      refine takeL (i := 5) (d := some 27) (v := ?_) rfl rfl (by kernel_rfl) (by kernel_rfl) (by kernel_rfl) (by kernel_rfl) (by kernel_rfl) (fun _ _ _ h => h) (Or.inl ⟨by rfl, ?_⟩) (by assumption) ?_
      rotate_left
      · ((intro w8 hSw; rw [HS.out] at hSw; obtain ⟨y1, y2, y3, y4, y5, y6⟩ := hSw; go_simp); try with_reducible rfl)
      try simp only [Act.put]
      try simp only [List.setIfInBounds_toArray]
      try simp only [List.set_cons_succ]
      try simp only [List.set_cons_zero]
      refine takeP (i := 6) (d := some 28) (v := ?_) rfl rfl (by kernel_rfl) (by kernel_rfl) (by kernel_rfl) (by kernel_rfl) (by kernel_rfl) (fun _ _ _ h => h) (Or.inl ⟨by rfl, ?_⟩) (by first | exact Or.inr (by assumption) | exact Or.inl (by kernel_rfl)) ?_
      rotate_left
      · ((intro w8 _; go_simp); try with_reducible rfl)
      try simp only [Act.put]
      try simp only [List.setIfInBounds_toArray]
      try simp only [List.set_cons_succ]
      try simp only [List.set_cons_zero]
      refine takeL (i := 7) (d := some 29) (v := ?_) rfl rfl (by kernel_rfl) (by kernel_rfl) (by kernel_rfl) (by kernel_rfl) (by kernel_rfl) (fun _ _ _ h => h) (Or.inl ⟨by rfl, ?_⟩) (by assumption) ?_
      rotate_left
      · ((intro w8 hSw; rw [HS.out] at hSw; obtain ⟨y1, y2, y3, y4, y5, y6⟩ := hSw; go_simp); try with_reducible rfl)
      try simp only [Act.put]
      try simp only [List.setIfInBounds_toArray]
      try simp only [List.set_cons_succ]
      try simp only [List.set_cons_zero]
      refine takeP (i := 8) (d := some 30) (v := ?_) rfl rfl (by kernel_rfl) (by kernel_rfl) (by kernel_rfl) (by kernel_rfl) (by kernel_rfl) (fun _ _ _ h => h) (Or.inl ⟨by rfl, ?_⟩) (by first | exact Or.inr (by assumption) | exact Or.inl (by kernel_rfl)) ?_
      rotate_left
      · ((intro w8 _; go_simp); try with_reducible rfl)
      try simp only [Act.put]
      try simp only [List.setIfInBounds_toArray]
      try simp only [List.set_cons_succ]
      try simp only [List.set_cons_zero]
      refine takeP (i := 9) (d := some 31) (v := ?_) rfl rfl (by kernel_rfl) (by kernel_rfl) (by kernel_rfl) (by kernel_rfl) (by kernel_rfl) (fun _ _ _ h => h) (Or.inl ⟨by rfl, ?_⟩) (by first | exact Or.inr (by assumption) | exact Or.inl (by kernel_rfl)) ?_
      rotate_left
      · ((intro w8 _; go_simp); try with_reducible rfl)
      try simp only [Act.put]
      try simp only [List.setIfInBounds_toArray]
      try simp only [List.set_cons_succ]
      try simp only [List.set_cons_zero]
      refine takeL (i := 10) (d := some 32) (v := ?_) rfl rfl (by kernel_rfl) (by kernel_rfl) (by kernel_rfl) (by kernel_rfl) (by kernel_rfl) (fun _ _ _ h => h) (Or.inl ⟨by rfl, ?_⟩) (by assumption) ?_
      rotate_left
      · ((intro w8 hSw; rw [HS.out] at hSw; obtain ⟨y1, y2, y3, y4, y5, y6⟩ := hSw; go_simp); try with_reducible rfl)
      try simp only [Act.put]
      try simp only [List.setIfInBounds_toArray]
      try simp only [List.set_cons_succ]
      try simp only [List.set_cons_zero]
      refine takeP (i := 11) (d := some 33) (v := ?_) rfl rfl (by kernel_rfl) (by kernel_rfl) (by kernel_rfl) (by kernel_rfl) (by kernel_rfl) (fun _ _ _ h => h) (Or.inl ⟨by rfl, ?_⟩) (by first | exact Or.inr (by assumption) | exact Or.inl (by kernel_rfl)) ?_
      rotate_left
      · ((intro w8 _; go_simp); try with_reducible rfl)
      try simp only [Act.put]
      try simp only [List.setIfInBounds_toArray]
      try simp only [List.set_cons_succ]
      try simp only [List.set_cons_zero]
      refine takeL (i := 12) (d := some 34) (v := ?_) rfl rfl (by kernel_rfl) (by kernel_rfl) (by kernel_rfl) (by kernel_rfl) (by kernel_rfl) (fun _ _ _ h => h) (Or.inl ⟨by rfl, ?_⟩) (by assumption) ?_
      rotate_left
      · ((intro w8 hSw; rw [HS.out] at hSw; obtain ⟨y1, y2, y3, y4, y5, y6⟩ := hSw; go_simp); try with_reducible rfl)
      try simp only [Act.put]
      try simp only [List.setIfInBounds_toArray]
      try simp only [List.set_cons_succ]
      try simp only [List.set_cons_zero]
      refine takeP (i := 13) (d := some 35) (v := ?_) rfl rfl (by kernel_rfl) (by kernel_rfl) (by kernel_rfl) (by kernel_rfl) (by kernel_rfl) (fun _ _ _ h => h) (Or.inl ⟨by rfl, ?_⟩) (by first | exact Or.inr (by assumption) | exact Or.inl (by kernel_rfl)) ?_
      rotate_left
      · ((intro w8 _; go_simp); try with_reducible rfl)
      try simp only [Act.put]
      try simp only [List.setIfInBounds_toArray]
      try simp only [List.set_cons_succ]
      try simp only [List.set_cons_zero]
      refine takeP (i := 14) (d := some 36) (v := ?_) rfl rfl (by kernel_rfl) (by kernel_rfl) (by kernel_rfl) (by kernel_rfl) (by kernel_rfl) (fun _ _ _ h => h) (Or.inl ⟨by rfl, ?_⟩) (by first | exact Or.inr (by assumption) | exact Or.inl (by kernel_rfl)) ?_
      rotate_left
      · ((intro w8 _; go_simp); try with_reducible rfl)
      try simp only [Act.put]
      try simp only [List.setIfInBounds_toArray]
      try simp only [List.set_cons_succ]
      try simp only [List.set_cons_zero]
      refine takeL (i := 15) (d := some 37) (v := ?_) rfl rfl (by kernel_rfl) (by kernel_rfl) (by kernel_rfl) (by kernel_rfl) (by kernel_rfl) (fun _ _ _ h => h) (Or.inl ⟨by rfl, ?_⟩) (by assumption) ?_
      rotate_left
      · ((intro w8 hSw; rw [HS.out] at hSw; obtain ⟨y1, y2, y3, y4, y5, y6⟩ := hSw; go_simp); try with_reducible rfl)
      try simp only [Act.put]
      try simp only [List.setIfInBounds_toArray]
      try simp only [List.set_cons_succ]
      try simp only [List.set_cons_zero]
      refine takeP (i := 16) (d := some 38) (v := ?_) rfl rfl (by kernel_rfl) (by kernel_rfl) (by kernel_rfl) (by kernel_rfl) (by kernel_rfl) (fun _ _ _ h => h) (Or.inl ⟨by rfl, ?_⟩) (by first | exact Or.inr (by assumption) | exact Or.inl (by kernel_rfl)) ?_
      rotate_left
      · ((intro w8 _; go_simp); try with_reducible rfl)
      try simp only [Act.put]
      try simp only [List.setIfInBounds_toArray]
      try simp only [List.set_cons_succ]
      try simp only [List.set_cons_zero]
      refine outL (i := 17) rfl (by kernel_rfl) (by kernel_rfl) (fun K8 hK8 => ?_)
      go_simp

      refine hK8 _ _ ?_
      try simp only [Act.put]
      try simp only [List.setIfInBounds_toArray]
      try simp only [List.set_cons_succ]
      try simp only [List.set_cons_zero]
      refine outL (i := 18) rfl (by kernel_rfl) (by kernel_rfl) (fun K8 hK8 => ?_)
      refine step_append_lies _ rfl (.tmp 22) (.tmp 39) 25 rfl w0.heap.size 42 i0 (.agg #[.int .i64 0, .int .i64 0, .int .i64 0]) 3 24 Tryz.underlying25 hi0 hz0 hz1 hz2 rfl (by decide) _ L.length (aC L) rfl HO.out ⟨wr.heap.size, 0, none⟩ 1 1 (aE (n, t, e)) rfl rfl (World.news_of_block (by exact heap_alloc_new wr _)) (one_adj _) (by decide) (by unfold maxLen; omega) (by omega) (by simp; omega) (wr.heap.size + 1) (by simp) ?_
      intro g' cap' w5 hown5 hgrow hat _
      refine hK8 _ _ ?_
      try simp only [Act.put]
      try simp only [List.setIfInBounds_toArray]
      try simp only [List.set_cons_succ]
      try simp only [List.set_cons_zero]
      refine takeP (i := 19) (d := some 5) (v := ?_) rfl rfl (by kernel_rfl) (by kernel_rfl) (by kernel_rfl) (by kernel_rfl) (by kernel_rfl) (fun _ _ _ h => h) (Or.inl ⟨by rfl, ?_⟩) (by first | exact Or.inr (by assumption) | exact Or.inl (by kernel_rfl)) ?_
      rotate_left
      · ((intro w8 _; go_simp); try with_reducible rfl)
      try simp only [Act.put]
      try simp only [List.setIfInBounds_toArray]
      try simp only [List.set_cons_succ]
      try simp only [List.set_cons_zero]
      refine lst_done (by kernel_rfl) ?_ _
      have HG := Lib.hid (fuw_grown (hF.out.trans (fuwA wr (.cells #[.int .i64 n, .int .i64 t, .int .i64 e] 42)).drew) HO.out hgrow)
      have HO2 := Lib.hid (show OwnJ w0 w5 (.slice (some ⟨g', 0, none⟩) (L.length + 1) cap') (segL n c.ts c.es f (m + 1)) from by
        unfold OwnJ
        rw [HSeg.out, aC_app, List.length_append]; exact hown5)
      clear hown5 hgrow hat HO hS0 HS
      go_wp2
      go_roundw
      case rel => exact ⟨m + 1, by go_num, by omega, HO2, HG⟩
      case measure => simp [RowKit.intOf]; omega
    · have e : f + m = g := by omega
      have HL2 := Lib.hid (show segL n c.ts c.es f m = rowL c i by rw [HRow.out, show g - f = m by omega])
      have hge : ¬ (f : Int) + (m : Int) < (g : Int) := by omega
      clear e
      obtain ⟨L, hL⟩ : ∃ L, segL n c.ts c.es f m = L := ⟨_, rfl⟩
      rw [hL] at hown HL2
      clear hL d1 d2 d3 d4 cn cf cg
      go_wp2
      go_ret
      exact ⟨_, rfl, by rw [← HL2.out]; exact own_le (own_on hown.out (Fuw.refl _)) F0.out.size, F0.out.trans hF.out⟩
theorem own_pos {w : World} {base e size n : Nat} {v : Value} {xs : List Value} (h : w.ownsRow base e size v n xs) (hn : 0 < n) :
    ∃ g cap, v = .slice (some ⟨g, 0, none⟩) n cap ∧ ∀ j u, xs[j]? = some u → w.cell? ((⟨g, 0, none⟩ : Addr).add j) = some u := by
  rcases h.2 with ⟨-, h0⟩ | ⟨g, cap, cur, rfl, -⟩
  · omega
  · exact ⟨g, cap, rfl, fun j u hu => h.cells (g := g) rfl j u hu⟩
theorem one_adjs (L : List Aj) : ∀ u ∈ aC L, u.oneCell' = true := by
  intro u hu
  unfold aC at hu
  obtain ⟨x, -, hx⟩ := List.mem_flatMap.1 hu
  exact one_adj x u hx
theorem entN_len {c : Cm} (hb : bndB c = true) {i : Nat} (hi : i ≤ c.ns.length) : (entN c i).length ≤ c.ts.length := by
  have h := congrArg List.length (entN_pair hb i hi)
  rw [List.length_map, List.length_map, List.length_range] at h
  rw [h]
  by_cases g : i = 0
  · rw [if_pos g]; exact Nat.zero_le _
  · rw [if_neg g]
    have q := bnd_at hb (show i - 1 < c.ns.length by omega)
    rw [show i - 1 + 1 = i by omega] at q
    omega
set_option maxHeartbeats 6400000 in
set_option maxRecDepth 100000 in
theorem ent_any (c : Cm) (A : CA) (w : World) (hC : CIn w c A) (hb : bndB c = true) (hl : c.ts.length ≤ 1000000) :
    Calls Tryz.prog 72 #[colv c A] w (RetJ w (entL c)) := by
  obtain ⟨w0, hw0⟩ : ∃ w0, w.alloc (.cells (colC c A) 24) = w0 := ⟨_, rfl⟩
  have B0 := Lib.hid (show Bk w0 w.heap.size (colC c A) 24 by rw [← hw0]; exact Bk.new _ _ _)
  have F0 := Lib.hid (show Fuw w w0 by rw [← hw0]; exact fuwA _ _)
  have HC := Lib.hid (hC.on F0.out)
  have HR := Lib.hid (fun (i : Nat) (hi : i < c.ns.length) (w' : World) (hf : Fuw w0 w') => row_any c A i w' (HC.out.on hf) hb hi hl)
  have HB := Lib.hid hb
  have HLe := Lib.hid (fun (i : Nat) (hi : i ≤ c.ns.length) => entN_len hb hi)
  have m1 := hC.n.cap_
  have l1 := hC.n.le
  obtain ⟨i0, hi0, hz0, hz1, hz2⟩ := info_parts infoJ
  have d1 := B0.out.c 0; have d2 := B0.out.c 1; have d3 := B0.out.c 2; have d4 := B0.out.c 3
  unfold colv at HR ⊢
  unfold colC at d1 d2 d3 d4 hw0 HR ⊢
  simp only [List.getElem?_toArray, List.getElem?_cons_zero, List.getElem?_cons_succ] at d1 d2 d3 d4
  clear hC hb
  go_enter Tryz.func72, Tryz.ntmps72
  go_upto_region 2 with fail
  clear hw0
  go_wp2
  go_loopw [3, 8] (fun lv iv wr => ∃ i : Nat, iv = .int .i64 i ∧ i ≤ c.ns.length ∧ Hid (OwnJ w0 wr lv (entN c i)) ∧ Hid (Fuw w0 wr)) (fun _ iv _ => c.ns.length - (RowKit.intOf iv).toNat)
  case atStart => exact ⟨0, rfl, by omega, Lib.hid (World.ownsRow_nil _ _ _ _), Lib.hid (Fuw.refl _)⟩
  case round =>
    obtain ⟨i, rfl, hii, hown, hF⟩ := hrel
    by_cases hlt : i < c.ns.length
    · have d1' := cellOnw hF.out d1; have d2' := cellOnw hF.out d2; have d3' := cellOnw hF.out d3; have d4' := cellOnw hF.out d4
      have HS := Lib.hid (entN_step c i)
      have HRi := Lib.hid (HR.out i hlt wr hF.out)
      obtain ⟨q1, q2, q3, q4, q5⟩ := bnd_at HB.out hlt
      have HP := Lib.hid (show 0 < (rowL c i).length by unfold rowL; rw [segL_len]; omega)
      have HA := Lib.hid (HLe.out (i + 1) hlt)
      rw [HS.out, List.length_append] at HA
      generalize rowL c i = L2 at *
      generalize entN c i = L1 at *
      clear d1 d2 d3 d4 q1 q2 q3 q4 q5
      go_wp2_with fail
      go_at_call 87; refine HRi.out.mono ?_; rintro e1 w1 ⟨v, rfl, ho, f1⟩
      obtain ⟨g, cap, hv, hnews⟩ := own_pos ho HP.out
      subst hv
      have HF1 := Lib.hid (hF.out.trans f1)
      have HO := Lib.hid (own_on hown.out f1)
      have HN := Lib.hid hnews
      have hA := HA.out
      clear ho f1 hnews d1' d2' d3' d4'
      go_wp2_with (at_builtin; refine wpList_append_own_at _ rfl (.tmp 11) (.tmp 14) 25 rfl w0.heap.size 42 i0 (.agg #[.int .i64 0, .int .i64 0, .int .i64 0]) 3 24 Tryz.underlying25 hi0 hz0 hz1 hz2 rfl (by decide) _ L1.length (aC L1) rfl HO.out ⟨g, 0, none⟩ L2.length cap (aC L2) rfl (aC_len _) HN.out (one_adjs _) (by unfold maxLen; omega) (by omega) HF1.out.size ?_; intro v' w5 hown5 hgrow _ _)
      have HG := Lib.hid (fuw_grown HF1.out HO.out hgrow)
      have HO2 := Lib.hid (show OwnJ w0 w5 v' (L1 ++ L2) from by
        unfold OwnJ
        rw [aC_app, List.length_append]; exact hown5)
      rw [← HS.out] at HO2
      clear hown5 hgrow HO HS
      go_wp2
      go_roundw
      case rel => exact ⟨i + 1, by go_num, by omega, HO2, HG⟩
      case measure => simp [RowKit.intOf]; omega
    · have e : i = c.ns.length := by omega
      have HL2 := Lib.hid (show entN c i = entL c by rw [e]; rfl)
      generalize entN c i = L1 at *
      have hge : ¬ (i : Int) < (c.ns.length : Int) := by omega
      clear e
      go_wp2
      go_ret
      exact ⟨_, rfl, by rw [← HL2.out]; exact own_le (own_on hown.out (Fuw.refl _)) F0.out.size, F0.out.trans hF.out⟩
end Go.Proofs.YtpjikijfendmhaaGreat
