
/-
  OverlayBack: what the law needs to know of insertion and deletion. Nothing that was there turns.
-/
import Derived.Test.YtpjikijfendmhaaGreatOvU
namespace Go.Proofs.YtpjikijfendmhaaGreat
open Go.RowKit

structure Sz (k : Nat) (o : Ov) : Prop where
  n : o.c.ns.length ≤ 101
  f : o.c.fs.length ≤ 101
  t : o.c.ts.length ≤ 101
  e : o.c.es.length ≤ 101
  a : o.ads.length ≤ k
  d : o.dls.length ≤ k
theorem Few.sz {o : Ov} (h : Few o) : Sz 60 o := ⟨by have := h.n; omega, h.f, by have := h.t; omega, by have := h.e; omega, h.a, h.d⟩
theorem Sz.tiny {k : Nat} {o : Ov} (h : Sz k o) (hk : k ≤ 100) : Tiny o := ⟨by have := h.n; omega, by have := h.f; omega, by have := h.t; omega, by have := h.e; omega, by have := h.a; omega, by have := h.d; omega⟩
theorem sz_em (k : Nat) : Sz k emO := ⟨Nat.zero_le _, Nat.zero_le _, Nat.zero_le _, Nat.zero_le _, Nat.zero_le _, Nat.zero_le _⟩
theorem sz_ins {k : Nat} {o : Ov} (h : Sz k o) (a : Aj) : Sz (k + 1) (insV o a).1 := by
  have h1 : (putJ o.ads a).length = o.ads.length + 1 := (putJ_perm a o.ads).length_eq
  have h2 : (dropI o.dls a.2.2).length ≤ o.dls.length := List.length_filter_le _ _
  obtain ⟨n, f, t, e, p, q⟩ := h
  unfold insV
  split
  · exact sz_em _
  · split
    · exact sz_em _
    · split
      · exact sz_em _
      · split
        · exact ⟨n, f, t, e, Nat.le_succ_of_le p, Nat.le_succ_of_le (Nat.le_trans h2 q)⟩
        · exact ⟨n, f, t, e, by show (putJ o.ads a).length ≤ _; omega, Nat.le_succ_of_le q⟩
theorem sz_del {k : Nat} {o : Ov} (h : Sz k o) (m : Int) : Sz (k + 1) (delV o m).1 := by
  have h1 : (putI o.dls m).length = o.dls.length + 1 := (putI_perm m o.dls).length_eq
  have h2 : (dropJ o.ads m).length ≤ o.ads.length := List.length_filter_le _ _
  obtain ⟨n, f, t, e, p, q⟩ := h
  unfold delV
  split
  · exact sz_em _
  · split
    · exact sz_em _
    · split
      · exact ⟨n, f, t, e, Nat.le_succ_of_le (Nat.le_trans h2 p), Nat.le_succ_of_le q⟩
      · exact ⟨n, f, t, e, Nat.le_succ_of_le p, by show (putI o.dls m).length ≤ _; omega⟩
structure FI (o x y : Ov) (a : Aj) : Prop where
  d : delV x a.2.2 = (y, 0)
  vx : valO x = true
  vy : valO y = true
  ey : entS y = entS o
theorem fi {o x : Ov} {a : Aj} (h : insV o a = (x, 0)) : ∃ y, FI o x y a := by
  have h2 : (insV o a).2 = 0 := by rw [h]
  obtain ⟨hk, ha, hn⟩ := ins_bad h2
  obtain ⟨d, ox, oy, ey, -⟩ := ins_del hk ha hn
  rw [h] at d ox oy ey
  exact ⟨(delV x a.2.2).1, Prod.ext rfl d, valO_iff.2 ox, valO_iff.2 oy, ey⟩
structure FD (o z v : Ov) (b : Aj) : Prop where
  d : delV o b.2.2 = (z, 0)
  i : insV z b = (v, 0)
  vz : valO z = true
  vv : valO v = true
  ev : entS v = entS o
theorem fd {o : Ov} {b : Aj} (hk : OkO o) (hb : b ∈ entS o) : ∃ z v, FD o z v b := by
  obtain ⟨d, i, oz, ov, ev, -⟩ := del_ins hk hb
  exact ⟨(delV o b.2.2).1, (insV (delV o b.2.2).1 b).1, Prod.ext rfl d, Prod.ext rfl i, valO_iff.2 oz, valO_iff.2 ov, ev⟩
theorem entS_i64 {o : Ov} : ∀ x ∈ entS o, I64 x.1 ∧ I64 x.2.1 ∧ I64 x.2.2 := by
  intro x hx
  by_cases hv : valO o = true
  · have hk := valO_iff.1 hv
    have := hk.ids ((mem_entS hk).1 hx)
    unfold idJ at this
    simp only [Bool.and_eq_true, idB_iff] at this
    obtain ⟨⟨q1, q2⟩, q3⟩ := this
    exact ⟨⟨by omega, by omega⟩, ⟨by omega, by omega⟩, by omega, by omega⟩
  · unfold entS at hx
    rw [if_neg hv] at hx; cases hx
theorem entS_len {o : Ov} {k : Nat} (hs : Sz k o) (hk : k ≤ 100) : (entS o).length ≤ 1000000 := by
  by_cases hv : valO o = true
  · rw [entS_ok (valO_iff.1 hv), srtJ_len, ← entO_ok hv]
    exact entO_len (hs.tiny hk).sm
  · unfold entS
    rw [if_neg hv]; exact Nat.zero_le _
theorem inso_x {o x : Ov} {a : Aj} {n : Int} (A : OA) (w : World) (hO : OIn w o A) (ht : Tiny o) (hai : I64 a.1 ∧ I64 a.2.1 ∧ I64 a.2.2) (h : insV o a = (x, n)) : Calls Tryz.prog 21 #[ovv o A, adv a] w (RetX w x n) := by
  have q := inso_any o A a w hO ht hai
  rw [h] at q; exact q
theorem delo_x {o x : Ov} {m n : Int} (A : OA) (w : World) (hO : OIn w o A) (ht : Tiny o) (hm : I64 m) (h : delV o m = (x, n)) : Calls Tryz.prog 23 #[ovv o A, .int .i64 m] w (RetX w x n) := by
  have q := delo_any o A m w hO ht hm
  rw [h] at q; exact q
def RetL (w : World) (L : List Aj) (e : Ending) (w' : World) : Prop := ∃ a k, e = .returned (.slice a L.length k) ∧ SlJ w' a L k ∧ Fuw w w'
theorem ents_x {o : Ov} (A : OA) (w : World) (hO : OIn w o A) (ht : Tiny o) : Calls Tryz.prog 15 #[ovv o A] w (RetL w (entS o)) := by
  refine (ents_any o A w hO ht.sm).mono ?_
  rintro e w' ⟨v, rfl, ho, hf⟩
  obtain ⟨a, k, rfl, -, hs⟩ := slJ_own ho entS_i64
  exact ⟨a, k, rfl, hs, hf⟩
theorem valo_x {o : Ov} (A : OA) (w : World) (hO : OIn w o A) (ht : Tiny o) {q : Bool} (h : valO o = q) : Calls Tryz.prog 12 #[ovv o A] w (FwB w q) := by
  have k := valo_any o A w hO ht.sm
  rw [h] at k; exact k
end Go.Proofs.YtpjikijfendmhaaGreat
