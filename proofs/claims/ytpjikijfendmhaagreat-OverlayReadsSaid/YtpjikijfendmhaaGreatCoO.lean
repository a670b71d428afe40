
/-
  Package column: the column of a list of entries that the call has made. Nothing that was there turns.
-/
import Derived.Test.YtpjikijfendmhaaGreatCoF
import Derived.Test.YtpjikijfendmhaaGreatCoK2
import Derived.Test.YtpjikijfendmhaaGreatOvV
namespace Go.Proofs.YtpjikijfendmhaaGreat
open Go.RowKit

theorem layN_t {s : List Aj} {i : Nat} (h : i < s.length) (hh : hdB s i = true) : layN s (i + 1) = ⟨(layN s i).ns ++ [s[i].1], (layN s i).fs ++ [(i : Int)], (layN s i).ts ++ [s[i].2.1], (layN s i).es ++ [s[i].2.2]⟩ := by
  unfold layN
  rw [hds_step, if_pos hh, take_snoc s h, List.map_append, List.map_append, List.map_append, List.map_append]
  simp only [List.map_cons, List.map_nil, gdJ h]; rfl
theorem layN_f {s : List Aj} {i : Nat} (h : i < s.length) (hh : hdB s i = false) : layN s (i + 1) = ⟨(layN s i).ns, (layN s i).fs, (layN s i).ts ++ [s[i].2.1], (layN s i).es ++ [s[i].2.2]⟩ := by
  unfold layN
  rw [hds_step, if_neg (by rw [hh]; decide), take_snoc s h]
  simp only [List.map_append, List.map_nil, List.append_nil, List.map_cons]
theorem layN_len (s : List Aj) (i : Nat) : (layN s i).ns.length ≤ i ∧ (layN s i).fs.length ≤ i ∧ (layN s i).ts.length ≤ i ∧ (layN s i).es.length ≤ i := by
  have h : (hdsN s i).length ≤ i := by
    unfold hdsN
    refine Nat.le_trans (List.length_filter_le _ _) ?_
    simp
  unfold layN
  simp only [List.length_map, List.length_take]
  omega
/-- A block of other cells than ints stays while a row of the family grows. -/
theorem Fam.far {w w' : World} {base B : Nat} {t : TypeId} {vs : List Value} {ls : List (List Int)} (h : Fam w base B t vs ls) {j : Nat} (hj : j < vs.length) (hj' : j < ls.length) (hg : w.grownBy w' vs[j].ownBlock)
    {C : Nat} {xs : Array Value} {u : TypeId} (hb : Bk w C xs u) (hu : u ≠ 3) (hC : C ≠ B) (v' : Value) : Bk (w'.setCell ⟨B, j, none⟩ v') C xs u := by
  have hne := own_ne (h.o j hj hj') hb hu
  have hl := hb.lt
  refine Bk.far ?_ hC _
  unfold Bk at *
  rw [hg.block C hl fun e => hne e.symm]; exact hb
theorem Fam.mid {w w' : World} {base B : Nat} {t : TypeId} {vs : List Value} {ls : List (List Int)} (h : Fam w base B t vs ls) (ht : t ≠ 3) {j : Nat} (hj : j < vs.length) (hj' : j < ls.length) (hg : w.grownBy w' vs[j].ownBlock) :
    Bk w' B vs.toArray t := by
  have hne := own_ne (h.o j hj hj') h.b ht
  have hl := h.b.lt
  have hb := h.b
  unfold Bk at *
  rw [hg.block B hl fun e => hne e.symm]; exact hb
def emK : Array Value := #[.slice none 0 0, .slice none 0 0, .slice none 0 0, .slice none 0 0]
theorem fam_0 {w : World} {base B : Nat} {t : TypeId} (hb : Bk w B emK t) (h : base ≤ B) : Fam w base B t [.slice none 0 0, .slice none 0 0, .slice none 0 0, .slice none 0 0] [[], [], [], []] := by
  refine ⟨hb, h, rfl, fun j a b => ?_, fun i j a b hne k hk => ?_⟩
  · rcases j with _ | _ | _ | _ | j
    · exact World.ownsRow_nil _ _ _ _
    · exact World.ownsRow_nil _ _ _ _
    · exact World.ownsRow_nil _ _ _ _
    · exact World.ownsRow_nil _ _ _ _
    · simp at a; omega
  · rcases i with _ | _ | _ | _ | i
    · simp [Value.ownBlock] at hk
    · simp [Value.ownBlock] at hk
    · simp [Value.ownBlock] at hk
    · simp [Value.ownBlock] at hk
    · simp at a; omega
theorem lies_at {w : World} {v : Value} {g n cap : Nat} (h : v.ownBlock = some g ∨ g = w.heap.size) : (Value.slice (some ⟨g, 0, none⟩) n cap).ownBlock = v.ownBlock ∨ (Value.slice (some ⟨g, 0, none⟩) n cap).ownBlock = some w.heap.size := by
  rcases h with h | h
  · exact .inl h.symm
  · exact .inr (by rw [h]; rfl)
/-- A column's rows as a family of the call's own, as a column in memory. -/
theorem fam_cin {w : World} {base B : Nat} {t : TypeId} {v0 v1 v2 v3 : Value} {n f ts es : List Int} (h : Fam w base B t [v0, v1, v2, v3] [n, f, ts, es]) (hn : ∀ x ∈ n, I64 x) (hf : ∀ x ∈ f, I64 x) (ht : ∀ x ∈ ts, I64 x) (he : ∀ x ∈ es, I64 x) :
    ∃ A : CA, v0 = .slice A.a1 n.length A.k1 ∧ v1 = .slice A.a2 f.length A.k2 ∧ v2 = .slice A.a3 ts.length A.k3 ∧ v3 = .slice A.a4 es.length A.k4 ∧ CIn w ⟨n, f, ts, es⟩ A := by
  obtain ⟨a1, k1, e1, -, s1⟩ := slI_own (h.o 0 (by simp) (by simp)) hn
  obtain ⟨a2, k2, e2, -, s2⟩ := slI_own (h.o 1 (by simp) (by simp)) hf
  obtain ⟨a3, k3, e3, -, s3⟩ := slI_own (h.o 2 (by simp) (by simp)) ht
  obtain ⟨a4, k4, e4, -, s4⟩ := slI_own (h.o 3 (by simp) (by simp)) he
  exact ⟨⟨a1, a2, a3, a4, k1, k2, k3, k4⟩, e1, e2, e3, e4, s1, s2, s3, s4⟩
theorem slc_cm (c : Cm) (A : CA) : Slc (colC c A) := by
  intro j v hv
  unfold colC at hv
  rcases j with _ | _ | _ | _ | j
  all_goals first
    | (simp only [List.getElem?_toArray, List.getElem?_cons_zero, List.getElem?_cons_succ] at hv; cases hv; exact ⟨_, _, _, rfl⟩)
    | (simp at hv)
def A0c : CA := ⟨none, none, none, none, 0, 0, 0, 0⟩
def set4 (w : World) (B : Nat) (c : Cm) (A : CA) : World :=
  (((w.setCell ⟨B, 0, none⟩ (.slice A.a1 c.ns.length A.k1)).setCell ⟨B, 1, none⟩ (.slice A.a2 c.fs.length A.k2)).setCell ⟨B, 2, none⟩ (.slice A.a3 c.ts.length A.k3)).setCell ⟨B, 3, none⟩ (.slice A.a4 c.es.length A.k4)
/-- A column stored into a column's box. -/
theorem set4_ok {w0 w : World} {B : Nat} {c c' : Cm} {A A' : CA} (h : Bk w B (colC c A) 24) (hb : w0.heap.size ≤ B) (hf : Fuw w0 w) : Bk (set4 w B c' A') B (colC c' A') 24 ∧ Fuw w0 (set4 w B c' A') ∧ ∀ (p : Cm) (X : CA), CIn w p X → CIn (set4 w B c' A') p X := by
  refine ⟨(((h.set_ 0 _).set_ 1 _).set_ 2 _).set_ 3 _, fuwS (fuwS (fuwS (fuwS hf hb) hb) hb) hb, fun p X hp => ?_⟩
  have k0 := slc_cm c A
  have h1 := h.set_ 0 (.slice A'.a1 c'.ns.length A'.k1)
  have h2 := h1.set_ 1 (.slice A'.a2 c'.fs.length A'.k2)
  have h3 := h2.set_ 2 (.slice A'.a3 c'.ts.length A'.k3)
  have far : ∀ {w : World} {cs : Array Value} (hB : Bk w B cs 24) (hS : Slc cs) (j : Nat) (u : Value), CIn w p X → CIn (w.setCell ⟨B, j, none⟩ u) p X := fun hB hS j u q => ⟨slI_far hB hS q.n j u, slI_far hB hS q.f j u, slI_far hB hS q.t j u, slI_far hB hS q.e j u⟩
  exact far h3 k0.set.set.set 3 _ (far h2 k0.set.set 2 _ (far h1 k0.set 1 _ (far h k0 0 _ hp)))
def RetCm (w : World) (c : Cm) (e : Ending) (w' : World) : Prop := ∃ A, e = .returned (colv c A) ∧ CIn w' c A ∧ Fuw w w'
theorem enters_ordc : ∀ args w, (callFunc 73 args).run Tryz.prog w = .ok (.enter 73 args) w := enters_of Tryz.func73 (by kernel_rfl) rfl
theorem srtJ_i64 {L : List Aj} (h : ∀ x ∈ L, I64 x.1 ∧ I64 x.2.1 ∧ I64 x.2.2) : ∀ x ∈ srtJ L, I64 x.1 ∧ I64 x.2.1 ∧ I64 x.2.2 := fun x hx => h x ((srtJ_perm L).mem_iff.1 hx)
theorem lay_i64 {s : List Aj} (h : ∀ x ∈ s, I64 x.1 ∧ I64 x.2.1 ∧ I64 x.2.2) (hl : s.length ≤ 1000000) : (∀ x ∈ (layV s).ns, I64 x) ∧ (∀ x ∈ (layV s).fs, I64 x) ∧ (∀ x ∈ (layV s).ts, I64 x) ∧ (∀ x ∈ (layV s).es, I64 x) := by
  refine ⟨fun x hx => ?_, fun x hx => ?_, fun x hx => ?_, fun x hx => ?_⟩
  · obtain ⟨i, hi, rfl⟩ := List.mem_map.1 hx
    obtain ⟨hik, -⟩ := hds_lt hi
    rw [gdJ hik]
    exact (h _ (List.getElem_mem hik)).1
  · rcases List.mem_append.1 hx with q | q
    · obtain ⟨i, hi, rfl⟩ := List.mem_map.1 q
      obtain ⟨hik, -⟩ := hds_lt hi
      exact ⟨by simp only [Int.ofNat_eq_natCast]; omega, by simp only [Int.ofNat_eq_natCast]; omega⟩
    · by_cases g : s.length = 0
      · rw [if_pos g] at q; cases q
      · rw [if_neg g] at q
        have : x = (s.length : Int) := by simpa using q
        exact ⟨by omega, by omega⟩
  · rw [lay_ts] at hx
    obtain ⟨y, hy, rfl⟩ := List.mem_map.1 hx
    exact (h y hy).2.1
  · rw [lay_es] at hx
    obtain ⟨y, hy, rfl⟩ := List.mem_map.1 hx
    exact (h y hy).2.2
set_option maxHeartbeats 12800000 in
set_option maxRecDepth 100000 in
theorem comp_any {wb : World} {v : Value} {L : List Aj} (w : World) (ho : w.ownsRow wb.heap.size 42 3 v L.length (aC L)) (hb : Fuw wb w) (hl : L.length ≤ 5000) (hi : ∀ x ∈ L, I64 x.1 ∧ I64 x.2.1 ∧ I64 x.2.2) :
    Calls Tryz.prog 62 #[v] w (RetCm wb (layV (srtJ L))) := by
  obtain ⟨wA, hwA⟩ : ∃ wA, w.alloc (.cells #[.slice none 0 0, .slice none 0 0, .slice none 0 0, .slice none 0 0] 24) = wA := ⟨_, rfl⟩
  have FA0 := Lib.hid (show Fuw w wA by rw [← hwA]; exact fuwA _ _)
  have BR := Lib.hid (show Bk wA w.heap.size emK 24 by rw [← hwA]; exact Bk.new _ _ _)
  have HSo := Lib.hid (srt_grown ordc_any enters_ordc (own_on ho FA0.out) (Nat.le_trans hl (by decide)))
  have HOA := Lib.hid (own_on ho FA0.out)
  have HB := Lib.hid hb
  have HI := Lib.hid (srtJ_i64 hi)
  have hsl : (srtJ L).length ≤ 5000 := by rw [srtJ_len]; exact hl
  have HLi := Lib.hid (lay_i64 HI.out (Nat.le_trans hsl (by decide)))
  have tyC : 24 ≠ 3 := by decide
  have tyA : 42 ≠ 3 := by decide
  obtain ⟨i0, hi0, hz0, hz1, hz2⟩ := info_parts infoI
  clear ho hb hl hi
  go_enter Tryz.func62, Tryz.ntmps62
  go_upto_region 1 with fail
  clear hwA
  obtain ⟨R, hR⟩ : ∃ R, R = w.heap.size := ⟨_, rfl⟩
  rw [← hR] at BR ⊢
  have HR := Lib.hid (show wb.heap.size ≤ R by rw [hR]; exact HB.out.size)
  clear hR
  go_wp2_with fail
  go_at_call 45; refine HSo.out.mono ?_; rintro e1 w1 ⟨rfl, o1, g1⟩
  have F1 := Lib.hid (fuw_grown (HB.out.trans FA0.out) HOA.out g1)
  have BR1 := Lib.hid (show Bk w1 R emK 24 from by
    have hne := own_ne HOA.out BR.out (show 24 ≠ 42 by decide)
    have hlt := BR.out.lt
    have hb := BR.out
    unfold Bk at *
    rw [g1.block R hlt fun e => hne e.symm]; exact hb)
  obtain ⟨ao, cap, hv, -, hS⟩ := slJ_own o1 HI.out
  subst hv
  have HS := Lib.hid hS
  have HRl := Lib.hid (show R < w1.heap.size from BR1.out.lt)
  clear o1 hS g1 HOA HSo BR
  have HLV := Lib.hid (show layV (srtJ L) = ⟨(layN (srtJ L) (srtJ L).length).ns, (layN (srtJ L) (srtJ L).length).fs ++ (if (srtJ L).length = 0 then [] else [((srtJ L).length : Int)]), (layN (srtJ L) (srtJ L).length).ts, (layN (srtJ L) (srtJ L).length).es⟩ from rfl)
  obtain ⟨LV, hLV⟩ : ∃ LV, layV (srtJ L) = LV := ⟨_, rfl⟩
  rw [hLV] at HLV HLi
  have HLX := Lib.hid hLV
  clear hLV
  generalize srtJ L = s at *
  go_upto_region 3 with fail
  obtain ⟨w2, hw2⟩ : ∃ w2, w1.alloc (.cells #[.slice none 0 0, .slice none 0 0, .slice none 0 0, .slice none 0 0] 24) = w2 := ⟨_, rfl⟩
  obtain ⟨B, hB⟩ : ∃ B, B = w1.heap.size := ⟨_, rfl⟩
  have F2 := Lib.hid (show Fuw w1 w2 by rw [← hw2]; exact fuwA _ _)
  have FB := Lib.hid (show Fam w2 w1.heap.size B 24 _ _ from fam_0 (by rw [hB, ← hw2]; exact Bk.new _ _ _) (by rw [hB]; exact Nat.le_refl _))
  have HBR := Lib.hid (show R < B by have := HRl.out; omega)
  have HBs := Lib.hid (show B = w1.heap.size from hB)
  rw [hw2]
  rw [← hB]
  clear hw2 hB
  go_wp2
  go_loopw [10] (fun iv wr => ∃ i : Nat, iv = .int .i64 i ∧ i ≤ s.length ∧ Hid (∃ v0 v1 v2 v3, Fam wr w1.heap.size B 24 [v0, v1, v2, v3] [(layN s i).ns, (layN s i).fs, (layN s i).ts, (layN s i).es]) ∧ Hid (Fuw w1 wr)) (fun iv _ => s.length - (RowKit.intOf iv).toNat)
  case atStart => exact ⟨0, rfl, Nat.zero_le _, Lib.hid ⟨_, _, _, _, FB.out⟩, Lib.hid F2.out⟩
  case round =>
    obtain ⟨i, rfl, hi, HFm, hf⟩ := hrel
    by_cases hlt : i < s.length
    · by_cases h0 : i = 0
      · have HT := Lib.hid (layN_t hlt (show hdB s i = true by unfold hdB; rw [decide_eq_true h0]; rfl))
        obtain ⟨b, o, rfl, -, -, -, c0, c1, c2⟩ := (slJ_on hf.out HS.out).get hlt
        generalize s[i] = x at *
        obtain ⟨x0, x1, x2⟩ := x
        simp only at c0 c1 c2 HT
        have hi0q : ((i : Int) == 0) = true := by rw [h0]; rfl
        have H0 := Lib.hid h0
        clear h0
        have hq4 := layN_len s i
        have hlt' : (i : Int) < (s.length : Int) := by omega
        generalize (layN s i).ns = n at *
        generalize (layN s i).fs = f at *
        generalize (layN s i).ts = t at *
        generalize (layN s i).es = e at *
        have HLn0 := Lib.hid (show n.length ≤ 5000 by omega)
        have HLn1 := Lib.hid (show f.length ≤ 5000 by omega)
        have HLn2 := Lib.hid (show t.length ≤ 5000 by omega)
        have HLn3 := Lib.hid (show e.length ≤ 5000 by omega)
        clear hq4
        obtain ⟨v0, v1, v2, v3, FM⟩ := HFm.out
        go_upto_region 6 with fail
        obtain ⟨W, hW⟩ : ∃ W, wr.alloc (.cells #[.int .i64 x0, .int .i64 x1, .int .i64 x2] 42) = W := ⟨_, rfl⟩
        have FWr := Lib.hid (show Fuw wr W by rw [← hW]; exact fuwA _ _)
        have FX := Lib.hid (hf.out.trans FWr.out)
        have FA := Lib.hid (FM.on FWr.out)
        obtain ⟨A0, hA0⟩ : ∃ A0, A0 = wr.heap.size := ⟨_, rfl⟩
        have BA := Lib.hid (show Bk W A0 #[.int .i64 x0, .int .i64 x1, .int .i64 x2] 42 by rw [hA0, ← hW]; exact Bk.new _ _ _)
        have HAB := Lib.hid (show A0 ≠ B by have := FM.b.lt; rw [hA0]; omega)
        rw [hW]
        rw [← hA0]
        clear hW hA0
        have c0 := BA.out.c 0; have c1 := BA.out.c 1; have c2 := BA.out.c 2
        simp only [List.getElem?_toArray, List.getElem?_cons_zero, List.getElem?_cons_succ] at c0 c1 c2
        go_region
        have FDr := Lib.hid (show Fuw W W.drew from fuw_dr W 1)
        obtain ⟨V, hV⟩ : ∃ V, W.drew = V := ⟨_, rfl⟩
        rw [hV] at FDr
        replace FA := Lib.hid (FA.out.on FDr.out)
        replace FX := Lib.hid (FX.out.trans FDr.out)
        replace BA := Lib.hid (BA.out.on FDr.out)
        clear c0 c1 c2
        have c0 := BA.out.c 0; have c1 := BA.out.c 1; have c2 := BA.out.c 2
        simp only [List.getElem?_toArray, List.getElem?_cons_zero, List.getElem?_cons_succ] at c0 c1 c2
        rw [hV]
        clear hV
        go_upto_region 7 with fail
        clear hi0q
        have k0 : V.cell? ⟨B, 0, none⟩ = some v0 := FA.out.c 0
        have f0 := FA.out.f 0
        go_upto_region 8 with (at_builtin; refine wpList_append_lies _ rfl (.tmp 29) (.tmp 32) 22 rfl w1.heap.size 3 i0 (.int .i64 0) 1 8 Tryz.underlying22 hi0 hz0 hz1 hz2 rfl (by decide) _ n.length (cs n) rfl (own_on (FA.out.o 0 (by simp) (by simp)) (fuwA _ _)) ⟨V.heap.size, 0, none⟩ 1 1 [.int .i64 x0] rfl rfl (World.news_of_block (heap_alloc_new V _)) (one_int _) (by decide) (by have := HLn0.out; unfold maxLen; omega) (by have := HLn0.out; omega) (Nat.le_trans FX.out.size (by simp)) _ rfl ?_; intro g0 p0 w5 hown5 hgrow hat _; have FT := Lib.hid (FA.out.on (fuwA V (.cells #[.int .i64 x0] 3))); have MT := Lib.hid (FT.out.mid tyC (j := 0) (by simp) (by simp) hgrow); have k1 : w5.cell? ⟨B, 0, none⟩ = some v0 := MT.out.c 0; have f1 := MT.out.f 0; have FP := Lib.hid (FT.out.app tyC (j := 0) (by simp) (by simp) hown5 hgrow (lies_at hat)); have FQ := Lib.hid (FT.out.appW (FX.out.trans (fuwA _ _)) (j := 0) (by simp) (by simp) hgrow (.slice (some ⟨g0, 0, none⟩) (n.length + 1) p0)); have FZ := Lib.hid (FT.out.far (j := 0) (by simp) (by simp) hgrow (BA.out.on (fuwA _ _)) tyA HAB.out (.slice (some ⟨g0, 0, none⟩) (n.length + 1) p0)); clear hown5 hgrow hat MT)
        obtain ⟨y0, hw⟩ : ∃ y0, w5.setCell ⟨B, 0, none⟩ (.slice (some ⟨g0, 0, none⟩) (n.length + 1) p0) = y0 := ⟨_, rfl⟩
        rw [hw] at FP FQ FZ
        have FA0 := Lib.hid (show Fam y0 w1.heap.size B 24 [.slice (some ⟨g0, 0, none⟩) (n.length + 1) p0, v1, v2, v3] [(n ++ [x0]), f, t, e] from FP.out)
        have FX0 := FQ
        have BA0 := FZ
        rw [hw]
        clear hw k1 f1 FT FP k0 f0 c0 c1 c2
        have c0 := BA0.out.c 0; have c1 := BA0.out.c 1; have c2 := BA0.out.c 2
        simp only [List.getElem?_toArray, List.getElem?_cons_zero, List.getElem?_cons_succ] at c0 c1 c2
        have k0 : y0.cell? ⟨B, 1, none⟩ = some v1 := FA0.out.c 1
        have f0 := FA0.out.f 1
        go_upto_region 9 with (at_builtin; refine wpList_append_lies _ rfl (.tmp 36) (.tmp 38) 22 rfl w1.heap.size 3 i0 (.int .i64 0) 1 8 Tryz.underlying22 hi0 hz0 hz1 hz2 rfl (by decide) _ f.length (cs f) rfl (own_on (FA0.out.o 1 (by simp) (by simp)) (fuwA _ _)) ⟨y0.heap.size, 0, none⟩ 1 1 [.int .i64 (i : Int)] rfl rfl (World.news_of_block (heap_alloc_new y0 _)) (one_int _) (by decide) (by have := HLn1.out; unfold maxLen; omega) (by have := HLn1.out; omega) (Nat.le_trans FX0.out.size (by simp)) _ rfl ?_; intro g1 p1 w5 hown5 hgrow hat _; have FT := Lib.hid (FA0.out.on (fuwA y0 (.cells #[.int .i64 (i : Int)] 3))); have MT := Lib.hid (FT.out.mid tyC (j := 1) (by simp) (by simp) hgrow); have k1 : w5.cell? ⟨B, 1, none⟩ = some v1 := MT.out.c 1; have f1 := MT.out.f 1; have FP := Lib.hid (FT.out.app tyC (j := 1) (by simp) (by simp) hown5 hgrow (lies_at hat)); have FQ := Lib.hid (FT.out.appW (FX0.out.trans (fuwA _ _)) (j := 1) (by simp) (by simp) hgrow (.slice (some ⟨g1, 0, none⟩) (f.length + 1) p1)); have FZ := Lib.hid (FT.out.far (j := 1) (by simp) (by simp) hgrow (BA0.out.on (fuwA _ _)) tyA HAB.out (.slice (some ⟨g1, 0, none⟩) (f.length + 1) p1)); clear hown5 hgrow hat MT)
        obtain ⟨y1, hw⟩ : ∃ y1, w5.setCell ⟨B, 1, none⟩ (.slice (some ⟨g1, 0, none⟩) (f.length + 1) p1) = y1 := ⟨_, rfl⟩
        rw [hw] at FP FQ FZ
        have FA01 := Lib.hid (show Fam y1 w1.heap.size B 24 [.slice (some ⟨g0, 0, none⟩) (n.length + 1) p0, .slice (some ⟨g1, 0, none⟩) (f.length + 1) p1, v2, v3] [(n ++ [x0]), (f ++ [(i : Int)]), t, e] from FP.out)
        have FX01 := FQ
        have BA01 := FZ
        rw [hw]
        clear hw k1 f1 FT FP k0 f0 c0 c1 c2
        have c0 := BA01.out.c 0; have c1 := BA01.out.c 1; have c2 := BA01.out.c 2
        simp only [List.getElem?_toArray, List.getElem?_cons_zero, List.getElem?_cons_succ] at c0 c1 c2
        have k0 : y1.cell? ⟨B, 2, none⟩ = some v2 := FA01.out.c 2
        have f0 := FA01.out.f 2
        go_upto_region 10 with (at_builtin; refine wpList_append_lies _ rfl (.tmp 42) (.tmp 45) 22 rfl w1.heap.size 3 i0 (.int .i64 0) 1 8 Tryz.underlying22 hi0 hz0 hz1 hz2 rfl (by decide) _ t.length (cs t) rfl (own_on (FA01.out.o 2 (by simp) (by simp)) (fuwA _ _)) ⟨y1.heap.size, 0, none⟩ 1 1 [.int .i64 x1] rfl rfl (World.news_of_block (heap_alloc_new y1 _)) (one_int _) (by decide) (by have := HLn2.out; unfold maxLen; omega) (by have := HLn2.out; omega) (Nat.le_trans FX01.out.size (by simp)) _ rfl ?_; intro g2 p2 w5 hown5 hgrow hat _; have FT := Lib.hid (FA01.out.on (fuwA y1 (.cells #[.int .i64 x1] 3))); have MT := Lib.hid (FT.out.mid tyC (j := 2) (by simp) (by simp) hgrow); have k1 : w5.cell? ⟨B, 2, none⟩ = some v2 := MT.out.c 2; have f1 := MT.out.f 2; have FP := Lib.hid (FT.out.app tyC (j := 2) (by simp) (by simp) hown5 hgrow (lies_at hat)); have FQ := Lib.hid (FT.out.appW (FX01.out.trans (fuwA _ _)) (j := 2) (by simp) (by simp) hgrow (.slice (some ⟨g2, 0, none⟩) (t.length + 1) p2)); have FZ := Lib.hid (FT.out.far (j := 2) (by simp) (by simp) hgrow (BA01.out.on (fuwA _ _)) tyA HAB.out (.slice (some ⟨g2, 0, none⟩) (t.length + 1) p2)); clear hown5 hgrow hat MT)
        obtain ⟨y2, hw⟩ : ∃ y2, w5.setCell ⟨B, 2, none⟩ (.slice (some ⟨g2, 0, none⟩) (t.length + 1) p2) = y2 := ⟨_, rfl⟩
        rw [hw] at FP FQ FZ
        have FA012 := Lib.hid (show Fam y2 w1.heap.size B 24 [.slice (some ⟨g0, 0, none⟩) (n.length + 1) p0, .slice (some ⟨g1, 0, none⟩) (f.length + 1) p1, .slice (some ⟨g2, 0, none⟩) (t.length + 1) p2, v3] [(n ++ [x0]), (f ++ [(i : Int)]), (t ++ [x1]), e] from FP.out)
        have FX012 := FQ
        have BA012 := FZ
        rw [hw]
        clear hw k1 f1 FT FP k0 f0 c0 c1 c2
        have c0 := BA012.out.c 0; have c1 := BA012.out.c 1; have c2 := BA012.out.c 2
        simp only [List.getElem?_toArray, List.getElem?_cons_zero, List.getElem?_cons_succ] at c0 c1 c2
        have k0 : y2.cell? ⟨B, 3, none⟩ = some v3 := FA012.out.c 3
        have f0 := FA012.out.f 3
        go_upto_region 11 with (at_builtin; refine wpList_append_lies _ rfl (.tmp 49) (.tmp 52) 22 rfl w1.heap.size 3 i0 (.int .i64 0) 1 8 Tryz.underlying22 hi0 hz0 hz1 hz2 rfl (by decide) _ e.length (cs e) rfl (own_on (FA012.out.o 3 (by simp) (by simp)) (fuwA _ _)) ⟨y2.heap.size, 0, none⟩ 1 1 [.int .i64 x2] rfl rfl (World.news_of_block (heap_alloc_new y2 _)) (one_int _) (by decide) (by have := HLn3.out; unfold maxLen; omega) (by have := HLn3.out; omega) (Nat.le_trans FX012.out.size (by simp)) _ rfl ?_; intro g3 p3 w5 hown5 hgrow hat _; have FT := Lib.hid (FA012.out.on (fuwA y2 (.cells #[.int .i64 x2] 3))); have MT := Lib.hid (FT.out.mid tyC (j := 3) (by simp) (by simp) hgrow); have k1 : w5.cell? ⟨B, 3, none⟩ = some v3 := MT.out.c 3; have f1 := MT.out.f 3; have FP := Lib.hid (FT.out.app tyC (j := 3) (by simp) (by simp) hown5 hgrow (lies_at hat)); have FQ := Lib.hid (FT.out.appW (FX012.out.trans (fuwA _ _)) (j := 3) (by simp) (by simp) hgrow (.slice (some ⟨g3, 0, none⟩) (e.length + 1) p3)); have FZ := Lib.hid (FT.out.far (j := 3) (by simp) (by simp) hgrow (BA012.out.on (fuwA _ _)) tyA HAB.out (.slice (some ⟨g3, 0, none⟩) (e.length + 1) p3)); clear hown5 hgrow hat MT)
        obtain ⟨y3, hw⟩ : ∃ y3, w5.setCell ⟨B, 3, none⟩ (.slice (some ⟨g3, 0, none⟩) (e.length + 1) p3) = y3 := ⟨_, rfl⟩
        rw [hw] at FP FQ FZ
        have FA0123 := Lib.hid (show Fam y3 w1.heap.size B 24 [.slice (some ⟨g0, 0, none⟩) (n.length + 1) p0, .slice (some ⟨g1, 0, none⟩) (f.length + 1) p1, .slice (some ⟨g2, 0, none⟩) (t.length + 1) p2, .slice (some ⟨g3, 0, none⟩) (e.length + 1) p3] [(n ++ [x0]), (f ++ [(i : Int)]), (t ++ [x1]), (e ++ [x2])] from FP.out)
        have FX0123 := FQ
        have BA0123 := FZ
        rw [hw]
        clear hw k1 f1 FT FP k0 f0 c0 c1 c2
        have c0 := BA0123.out.c 0; have c1 := BA0123.out.c 1; have c2 := BA0123.out.c 2
        simp only [List.getElem?_toArray, List.getElem?_cons_zero, List.getElem?_cons_succ] at c0 c1 c2
        have HFm2 := Lib.hid (show ∃ v0 v1 v2 v3, Fam y3 w1.heap.size B 24 [v0, v1, v2, v3] [(layN s (i + 1)).ns, (layN s (i + 1)).fs, (layN s (i + 1)).ts, (layN s (i + 1)).es] from ⟨_, _, _, _, by rw [HT.out]; exact FA0123.out⟩)
        clear c0 c1 c2
        go_wp2
        go_roundw
        case rel => exact ⟨i + 1, by go_num, by omega, HFm2, FX0123⟩
        case measure => simp [RowKit.intOf]; omega
      · obtain ⟨m, hm⟩ : ∃ m, i = m + 1 := ⟨i - 1, by omega⟩
        have hml : m < s.length := by omega
        obtain ⟨b, o, rfl, ⟨-, -, -, p0, -, -⟩, -, -, -, c0, c1, c2⟩ := (slJ_on hf.out HS.out).get2 hml hlt
        have HH := Lib.hid (show hdB s i = !decide (s[i].1 = s[m].1) by
          unfold hdB
          rw [decide_eq_false h0, gdJ hlt, show i - 1 = m by omega, gdJ hml]; rfl)
        have HTt := Lib.hid (fun h => layN_t hlt h)
        have HTf := Lib.hid (fun h => layN_f hlt h)
        generalize s[m].1 = pv at *
        generalize s[i] = x at *
        obtain ⟨x0, x1, x2⟩ := x
        simp only at c0 c1 c2 HTt HTf HH
        have hi0q : ((i : Int) == 0) = false := by rw [beq_eq_false_iff_ne]; omega
        have k1 : IntKind.i64.wrap ((i : Int) - 1) = (m : Int) := by rw [show (i : Int) - 1 = m by omega]; exact IntWalk.i64_in _ (by omega)
        have k2 : (m : Int) < (s.length : Int) := by omega
        have P0 := Lib.hid p0
        have HM := Lib.hid hm
        clear h0 hm p0
        by_cases hx : x0 = pv
        · have hq : (x0 != pv) = false := by rw [bne_eq_false_iff_eq]; exact hx
          have HT := Lib.hid (HTf.out (by rw [HH.out, decide_eq_true hx]; rfl))
          clear hx HTt HTf HH
          have hq4 := layN_len s i
          have hlt' : (i : Int) < (s.length : Int) := by omega
          generalize (layN s i).ns = n at *
          generalize (layN s i).fs = f at *
          generalize (layN s i).ts = t at *
          generalize (layN s i).es = e at *
          have HLn0 := Lib.hid (show n.length ≤ 5000 by omega)
          have HLn1 := Lib.hid (show f.length ≤ 5000 by omega)
          have HLn2 := Lib.hid (show t.length ≤ 5000 by omega)
          have HLn3 := Lib.hid (show e.length ≤ 5000 by omega)
          clear hq4
          obtain ⟨v0, v1, v2, v3, FM⟩ := HFm.out
          go_upto_region 6 with fail
          obtain ⟨W, hW⟩ : ∃ W, wr.alloc (.cells #[.int .i64 x0, .int .i64 x1, .int .i64 x2] 42) = W := ⟨_, rfl⟩
          have FWr := Lib.hid (show Fuw wr W by rw [← hW]; exact fuwA _ _)
          have FX := Lib.hid (hf.out.trans FWr.out)
          have FA := Lib.hid (FM.on FWr.out)
          obtain ⟨A0, hA0⟩ : ∃ A0, A0 = wr.heap.size := ⟨_, rfl⟩
          have BA := Lib.hid (show Bk W A0 #[.int .i64 x0, .int .i64 x1, .int .i64 x2] 42 by rw [hA0, ← hW]; exact Bk.new _ _ _)
          have HAB := Lib.hid (show A0 ≠ B by have := FM.b.lt; rw [hA0]; omega)
          rw [hW]
          rw [← hA0]
          clear hW hA0
          have c0 := BA.out.c 0; have c1 := BA.out.c 1; have c2 := BA.out.c 2
          simp only [List.getElem?_toArray, List.getElem?_cons_zero, List.getElem?_cons_succ] at c0 c1 c2
          have p0 := cellOnw FWr.out P0.out
          go_region
          have FDr := Lib.hid (show Fuw W W.drew from fuw_dr W 1)
          obtain ⟨V, hV⟩ : ∃ V, W.drew = V := ⟨_, rfl⟩
          rw [hV] at FDr
          replace FA := Lib.hid (FA.out.on FDr.out)
          replace FX := Lib.hid (FX.out.trans FDr.out)
          replace BA := Lib.hid (BA.out.on FDr.out)
          clear c0 c1 c2
          have c0 := BA.out.c 0; have c1 := BA.out.c 1; have c2 := BA.out.c 2
          simp only [List.getElem?_toArray, List.getElem?_cons_zero, List.getElem?_cons_succ] at c0 c1 c2
          rw [hV]
          clear hV
          go_upto_region 9 with fail
          clear hi0q k1 k2 hq p0
          have k0 : V.cell? ⟨B, 2, none⟩ = some v2 := FA.out.c 2
          have f0 := FA.out.f 2
          go_upto_region 10 with (at_builtin; refine wpList_append_lies _ rfl (.tmp 42) (.tmp 45) 22 rfl w1.heap.size 3 i0 (.int .i64 0) 1 8 Tryz.underlying22 hi0 hz0 hz1 hz2 rfl (by decide) _ t.length (cs t) rfl (own_on (FA.out.o 2 (by simp) (by simp)) (fuwA _ _)) ⟨V.heap.size, 0, none⟩ 1 1 [.int .i64 x1] rfl rfl (World.news_of_block (heap_alloc_new V _)) (one_int _) (by decide) (by have := HLn2.out; unfold maxLen; omega) (by have := HLn2.out; omega) (Nat.le_trans FX.out.size (by simp)) _ rfl ?_; intro g2 p2 w5 hown5 hgrow hat _; have FT := Lib.hid (FA.out.on (fuwA V (.cells #[.int .i64 x1] 3))); have MT := Lib.hid (FT.out.mid tyC (j := 2) (by simp) (by simp) hgrow); have k1 : w5.cell? ⟨B, 2, none⟩ = some v2 := MT.out.c 2; have f1 := MT.out.f 2; have FP := Lib.hid (FT.out.app tyC (j := 2) (by simp) (by simp) hown5 hgrow (lies_at hat)); have FQ := Lib.hid (FT.out.appW (FX.out.trans (fuwA _ _)) (j := 2) (by simp) (by simp) hgrow (.slice (some ⟨g2, 0, none⟩) (t.length + 1) p2)); have FZ := Lib.hid (FT.out.far (j := 2) (by simp) (by simp) hgrow (BA.out.on (fuwA _ _)) tyA HAB.out (.slice (some ⟨g2, 0, none⟩) (t.length + 1) p2)); clear hown5 hgrow hat MT)
          obtain ⟨y0, hw⟩ : ∃ y0, w5.setCell ⟨B, 2, none⟩ (.slice (some ⟨g2, 0, none⟩) (t.length + 1) p2) = y0 := ⟨_, rfl⟩
          rw [hw] at FP FQ FZ
          have FA2 := Lib.hid (show Fam y0 w1.heap.size B 24 [v0, v1, .slice (some ⟨g2, 0, none⟩) (t.length + 1) p2, v3] [n, f, (t ++ [x1]), e] from FP.out)
          have FX2 := FQ
          have BA2 := FZ
          rw [hw]
          clear hw k1 f1 FT FP k0 f0 c0 c1 c2
          have c0 := BA2.out.c 0; have c1 := BA2.out.c 1; have c2 := BA2.out.c 2
          simp only [List.getElem?_toArray, List.getElem?_cons_zero, List.getElem?_cons_succ] at c0 c1 c2
          have k0 : y0.cell? ⟨B, 3, none⟩ = some v3 := FA2.out.c 3
          have f0 := FA2.out.f 3
          go_upto_region 11 with (at_builtin; refine wpList_append_lies _ rfl (.tmp 49) (.tmp 52) 22 rfl w1.heap.size 3 i0 (.int .i64 0) 1 8 Tryz.underlying22 hi0 hz0 hz1 hz2 rfl (by decide) _ e.length (cs e) rfl (own_on (FA2.out.o 3 (by simp) (by simp)) (fuwA _ _)) ⟨y0.heap.size, 0, none⟩ 1 1 [.int .i64 x2] rfl rfl (World.news_of_block (heap_alloc_new y0 _)) (one_int _) (by decide) (by have := HLn3.out; unfold maxLen; omega) (by have := HLn3.out; omega) (Nat.le_trans FX2.out.size (by simp)) _ rfl ?_; intro g3 p3 w5 hown5 hgrow hat _; have FT := Lib.hid (FA2.out.on (fuwA y0 (.cells #[.int .i64 x2] 3))); have MT := Lib.hid (FT.out.mid tyC (j := 3) (by simp) (by simp) hgrow); have k1 : w5.cell? ⟨B, 3, none⟩ = some v3 := MT.out.c 3; have f1 := MT.out.f 3; have FP := Lib.hid (FT.out.app tyC (j := 3) (by simp) (by simp) hown5 hgrow (lies_at hat)); have FQ := Lib.hid (FT.out.appW (FX2.out.trans (fuwA _ _)) (j := 3) (by simp) (by simp) hgrow (.slice (some ⟨g3, 0, none⟩) (e.length + 1) p3)); have FZ := Lib.hid (FT.out.far (j := 3) (by simp) (by simp) hgrow (BA2.out.on (fuwA _ _)) tyA HAB.out (.slice (some ⟨g3, 0, none⟩) (e.length + 1) p3)); clear hown5 hgrow hat MT)
          obtain ⟨y1, hw⟩ : ∃ y1, w5.setCell ⟨B, 3, none⟩ (.slice (some ⟨g3, 0, none⟩) (e.length + 1) p3) = y1 := ⟨_, rfl⟩
          rw [hw] at FP FQ FZ
          have FA23 := Lib.hid (show Fam y1 w1.heap.size B 24 [v0, v1, .slice (some ⟨g2, 0, none⟩) (t.length + 1) p2, .slice (some ⟨g3, 0, none⟩) (e.length + 1) p3] [n, f, (t ++ [x1]), (e ++ [x2])] from FP.out)
          have FX23 := FQ
          have BA23 := FZ
          rw [hw]
          clear hw k1 f1 FT FP k0 f0 c0 c1 c2
          have c0 := BA23.out.c 0; have c1 := BA23.out.c 1; have c2 := BA23.out.c 2
          simp only [List.getElem?_toArray, List.getElem?_cons_zero, List.getElem?_cons_succ] at c0 c1 c2
          have HFm2 := Lib.hid (show ∃ v0 v1 v2 v3, Fam y1 w1.heap.size B 24 [v0, v1, v2, v3] [(layN s (i + 1)).ns, (layN s (i + 1)).fs, (layN s (i + 1)).ts, (layN s (i + 1)).es] from ⟨_, _, _, _, by rw [HT.out]; exact FA23.out⟩)
          clear c0 c1 c2
          go_wp2
          go_roundw
          case rel => exact ⟨i + 1, by go_num, by omega, HFm2, FX23⟩
          case measure => simp [RowKit.intOf]; omega
        · have hq : (x0 != pv) = true := by rw [bne_iff_ne]; exact hx
          have HT := Lib.hid (HTt.out (by rw [HH.out, decide_eq_false hx]; rfl))
          clear hx HTt HTf HH
          have hq4 := layN_len s i
          have hlt' : (i : Int) < (s.length : Int) := by omega
          generalize (layN s i).ns = n at *
          generalize (layN s i).fs = f at *
          generalize (layN s i).ts = t at *
          generalize (layN s i).es = e at *
          have HLn0 := Lib.hid (show n.length ≤ 5000 by omega)
          have HLn1 := Lib.hid (show f.length ≤ 5000 by omega)
          have HLn2 := Lib.hid (show t.length ≤ 5000 by omega)
          have HLn3 := Lib.hid (show e.length ≤ 5000 by omega)
          clear hq4
          obtain ⟨v0, v1, v2, v3, FM⟩ := HFm.out
          go_upto_region 6 with fail
          obtain ⟨W, hW⟩ : ∃ W, wr.alloc (.cells #[.int .i64 x0, .int .i64 x1, .int .i64 x2] 42) = W := ⟨_, rfl⟩
          have FWr := Lib.hid (show Fuw wr W by rw [← hW]; exact fuwA _ _)
          have FX := Lib.hid (hf.out.trans FWr.out)
          have FA := Lib.hid (FM.on FWr.out)
          obtain ⟨A0, hA0⟩ : ∃ A0, A0 = wr.heap.size := ⟨_, rfl⟩
          have BA := Lib.hid (show Bk W A0 #[.int .i64 x0, .int .i64 x1, .int .i64 x2] 42 by rw [hA0, ← hW]; exact Bk.new _ _ _)
          have HAB := Lib.hid (show A0 ≠ B by have := FM.b.lt; rw [hA0]; omega)
          rw [hW]
          rw [← hA0]
          clear hW hA0
          have c0 := BA.out.c 0; have c1 := BA.out.c 1; have c2 := BA.out.c 2
          simp only [List.getElem?_toArray, List.getElem?_cons_zero, List.getElem?_cons_succ] at c0 c1 c2
          have p0 := cellOnw FWr.out P0.out
          go_region
          have FDr := Lib.hid (show Fuw W W.drew from fuw_dr W 1)
          obtain ⟨V, hV⟩ : ∃ V, W.drew = V := ⟨_, rfl⟩
          rw [hV] at FDr
          replace FA := Lib.hid (FA.out.on FDr.out)
          replace FX := Lib.hid (FX.out.trans FDr.out)
          replace BA := Lib.hid (BA.out.on FDr.out)
          clear c0 c1 c2
          have c0 := BA.out.c 0; have c1 := BA.out.c 1; have c2 := BA.out.c 2
          simp only [List.getElem?_toArray, List.getElem?_cons_zero, List.getElem?_cons_succ] at c0 c1 c2
          rw [hV]
          clear hV
          go_upto_region 7 with fail
          clear hi0q k1 k2 hq p0
          have k0 : V.cell? ⟨B, 0, none⟩ = some v0 := FA.out.c 0
          have f0 := FA.out.f 0
          go_upto_region 8 with (at_builtin; refine wpList_append_lies _ rfl (.tmp 29) (.tmp 32) 22 rfl w1.heap.size 3 i0 (.int .i64 0) 1 8 Tryz.underlying22 hi0 hz0 hz1 hz2 rfl (by decide) _ n.length (cs n) rfl (own_on (FA.out.o 0 (by simp) (by simp)) (fuwA _ _)) ⟨V.heap.size, 0, none⟩ 1 1 [.int .i64 x0] rfl rfl (World.news_of_block (heap_alloc_new V _)) (one_int _) (by decide) (by have := HLn0.out; unfold maxLen; omega) (by have := HLn0.out; omega) (Nat.le_trans FX.out.size (by simp)) _ rfl ?_; intro g0 p0 w5 hown5 hgrow hat _; have FT := Lib.hid (FA.out.on (fuwA V (.cells #[.int .i64 x0] 3))); have MT := Lib.hid (FT.out.mid tyC (j := 0) (by simp) (by simp) hgrow); have k1 : w5.cell? ⟨B, 0, none⟩ = some v0 := MT.out.c 0; have f1 := MT.out.f 0; have FP := Lib.hid (FT.out.app tyC (j := 0) (by simp) (by simp) hown5 hgrow (lies_at hat)); have FQ := Lib.hid (FT.out.appW (FX.out.trans (fuwA _ _)) (j := 0) (by simp) (by simp) hgrow (.slice (some ⟨g0, 0, none⟩) (n.length + 1) p0)); have FZ := Lib.hid (FT.out.far (j := 0) (by simp) (by simp) hgrow (BA.out.on (fuwA _ _)) tyA HAB.out (.slice (some ⟨g0, 0, none⟩) (n.length + 1) p0)); clear hown5 hgrow hat MT)
          obtain ⟨y0, hw⟩ : ∃ y0, w5.setCell ⟨B, 0, none⟩ (.slice (some ⟨g0, 0, none⟩) (n.length + 1) p0) = y0 := ⟨_, rfl⟩
          rw [hw] at FP FQ FZ
          have FA0 := Lib.hid (show Fam y0 w1.heap.size B 24 [.slice (some ⟨g0, 0, none⟩) (n.length + 1) p0, v1, v2, v3] [(n ++ [x0]), f, t, e] from FP.out)
          have FX0 := FQ
          have BA0 := FZ
          rw [hw]
          clear hw k1 f1 FT FP k0 f0 c0 c1 c2
          have c0 := BA0.out.c 0; have c1 := BA0.out.c 1; have c2 := BA0.out.c 2
          simp only [List.getElem?_toArray, List.getElem?_cons_zero, List.getElem?_cons_succ] at c0 c1 c2
          have k0 : y0.cell? ⟨B, 1, none⟩ = some v1 := FA0.out.c 1
          have f0 := FA0.out.f 1
          go_upto_region 9 with (at_builtin; refine wpList_append_lies _ rfl (.tmp 36) (.tmp 38) 22 rfl w1.heap.size 3 i0 (.int .i64 0) 1 8 Tryz.underlying22 hi0 hz0 hz1 hz2 rfl (by decide) _ f.length (cs f) rfl (own_on (FA0.out.o 1 (by simp) (by simp)) (fuwA _ _)) ⟨y0.heap.size, 0, none⟩ 1 1 [.int .i64 (i : Int)] rfl rfl (World.news_of_block (heap_alloc_new y0 _)) (one_int _) (by decide) (by have := HLn1.out; unfold maxLen; omega) (by have := HLn1.out; omega) (Nat.le_trans FX0.out.size (by simp)) _ rfl ?_; intro g1 p1 w5 hown5 hgrow hat _; have FT := Lib.hid (FA0.out.on (fuwA y0 (.cells #[.int .i64 (i : Int)] 3))); have MT := Lib.hid (FT.out.mid tyC (j := 1) (by simp) (by simp) hgrow); have k1 : w5.cell? ⟨B, 1, none⟩ = some v1 := MT.out.c 1; have f1 := MT.out.f 1; have FP := Lib.hid (FT.out.app tyC (j := 1) (by simp) (by simp) hown5 hgrow (lies_at hat)); have FQ := Lib.hid (FT.out.appW (FX0.out.trans (fuwA _ _)) (j := 1) (by simp) (by simp) hgrow (.slice (some ⟨g1, 0, none⟩) (f.length + 1) p1)); have FZ := Lib.hid (FT.out.far (j := 1) (by simp) (by simp) hgrow (BA0.out.on (fuwA _ _)) tyA HAB.out (.slice (some ⟨g1, 0, none⟩) (f.length + 1) p1)); clear hown5 hgrow hat MT)
          obtain ⟨y1, hw⟩ : ∃ y1, w5.setCell ⟨B, 1, none⟩ (.slice (some ⟨g1, 0, none⟩) (f.length + 1) p1) = y1 := ⟨_, rfl⟩
          rw [hw] at FP FQ FZ
          have FA01 := Lib.hid (show Fam y1 w1.heap.size B 24 [.slice (some ⟨g0, 0, none⟩) (n.length + 1) p0, .slice (some ⟨g1, 0, none⟩) (f.length + 1) p1, v2, v3] [(n ++ [x0]), (f ++ [(i : Int)]), t, e] from FP.out)
          have FX01 := FQ
          have BA01 := FZ
          rw [hw]
          clear hw k1 f1 FT FP k0 f0 c0 c1 c2
          have c0 := BA01.out.c 0; have c1 := BA01.out.c 1; have c2 := BA01.out.c 2
          simp only [List.getElem?_toArray, List.getElem?_cons_zero, List.getElem?_cons_succ] at c0 c1 c2
          have k0 : y1.cell? ⟨B, 2, none⟩ = some v2 := FA01.out.c 2
          have f0 := FA01.out.f 2
          go_upto_region 10 with (at_builtin; refine wpList_append_lies _ rfl (.tmp 42) (.tmp 45) 22 rfl w1.heap.size 3 i0 (.int .i64 0) 1 8 Tryz.underlying22 hi0 hz0 hz1 hz2 rfl (by decide) _ t.length (cs t) rfl (own_on (FA01.out.o 2 (by simp) (by simp)) (fuwA _ _)) ⟨y1.heap.size, 0, none⟩ 1 1 [.int .i64 x1] rfl rfl (World.news_of_block (heap_alloc_new y1 _)) (one_int _) (by decide) (by have := HLn2.out; unfold maxLen; omega) (by have := HLn2.out; omega) (Nat.le_trans FX01.out.size (by simp)) _ rfl ?_; intro g2 p2 w5 hown5 hgrow hat _; have FT := Lib.hid (FA01.out.on (fuwA y1 (.cells #[.int .i64 x1] 3))); have MT := Lib.hid (FT.out.mid tyC (j := 2) (by simp) (by simp) hgrow); have k1 : w5.cell? ⟨B, 2, none⟩ = some v2 := MT.out.c 2; have f1 := MT.out.f 2; have FP := Lib.hid (FT.out.app tyC (j := 2) (by simp) (by simp) hown5 hgrow (lies_at hat)); have FQ := Lib.hid (FT.out.appW (FX01.out.trans (fuwA _ _)) (j := 2) (by simp) (by simp) hgrow (.slice (some ⟨g2, 0, none⟩) (t.length + 1) p2)); have FZ := Lib.hid (FT.out.far (j := 2) (by simp) (by simp) hgrow (BA01.out.on (fuwA _ _)) tyA HAB.out (.slice (some ⟨g2, 0, none⟩) (t.length + 1) p2)); clear hown5 hgrow hat MT)
          obtain ⟨y2, hw⟩ : ∃ y2, w5.setCell ⟨B, 2, none⟩ (.slice (some ⟨g2, 0, none⟩) (t.length + 1) p2) = y2 := ⟨_, rfl⟩
          rw [hw] at FP FQ FZ
          have FA012 := Lib.hid (show Fam y2 w1.heap.size B 24 [.slice (some ⟨g0, 0, none⟩) (n.length + 1) p0, .slice (some ⟨g1, 0, none⟩) (f.length + 1) p1, .slice (some ⟨g2, 0, none⟩) (t.length + 1) p2, v3] [(n ++ [x0]), (f ++ [(i : Int)]), (t ++ [x1]), e] from FP.out)
          have FX012 := FQ
          have BA012 := FZ
          rw [hw]
          clear hw k1 f1 FT FP k0 f0 c0 c1 c2
          have c0 := BA012.out.c 0; have c1 := BA012.out.c 1; have c2 := BA012.out.c 2
          simp only [List.getElem?_toArray, List.getElem?_cons_zero, List.getElem?_cons_succ] at c0 c1 c2
          have k0 : y2.cell? ⟨B, 3, none⟩ = some v3 := FA012.out.c 3
          have f0 := FA012.out.f 3
          go_upto_region 11 with (at_builtin; refine wpList_append_lies _ rfl (.tmp 49) (.tmp 52) 22 rfl w1.heap.size 3 i0 (.int .i64 0) 1 8 Tryz.underlying22 hi0 hz0 hz1 hz2 rfl (by decide) _ e.length (cs e) rfl (own_on (FA012.out.o 3 (by simp) (by simp)) (fuwA _ _)) ⟨y2.heap.size, 0, none⟩ 1 1 [.int .i64 x2] rfl rfl (World.news_of_block (heap_alloc_new y2 _)) (one_int _) (by decide) (by have := HLn3.out; unfold maxLen; omega) (by have := HLn3.out; omega) (Nat.le_trans FX012.out.size (by simp)) _ rfl ?_; intro g3 p3 w5 hown5 hgrow hat _; have FT := Lib.hid (FA012.out.on (fuwA y2 (.cells #[.int .i64 x2] 3))); have MT := Lib.hid (FT.out.mid tyC (j := 3) (by simp) (by simp) hgrow); have k1 : w5.cell? ⟨B, 3, none⟩ = some v3 := MT.out.c 3; have f1 := MT.out.f 3; have FP := Lib.hid (FT.out.app tyC (j := 3) (by simp) (by simp) hown5 hgrow (lies_at hat)); have FQ := Lib.hid (FT.out.appW (FX012.out.trans (fuwA _ _)) (j := 3) (by simp) (by simp) hgrow (.slice (some ⟨g3, 0, none⟩) (e.length + 1) p3)); have FZ := Lib.hid (FT.out.far (j := 3) (by simp) (by simp) hgrow (BA012.out.on (fuwA _ _)) tyA HAB.out (.slice (some ⟨g3, 0, none⟩) (e.length + 1) p3)); clear hown5 hgrow hat MT)
          obtain ⟨y3, hw⟩ : ∃ y3, w5.setCell ⟨B, 3, none⟩ (.slice (some ⟨g3, 0, none⟩) (e.length + 1) p3) = y3 := ⟨_, rfl⟩
          rw [hw] at FP FQ FZ
          have FA0123 := Lib.hid (show Fam y3 w1.heap.size B 24 [.slice (some ⟨g0, 0, none⟩) (n.length + 1) p0, .slice (some ⟨g1, 0, none⟩) (f.length + 1) p1, .slice (some ⟨g2, 0, none⟩) (t.length + 1) p2, .slice (some ⟨g3, 0, none⟩) (e.length + 1) p3] [(n ++ [x0]), (f ++ [(i : Int)]), (t ++ [x1]), (e ++ [x2])] from FP.out)
          have FX0123 := FQ
          have BA0123 := FZ
          rw [hw]
          clear hw k1 f1 FT FP k0 f0 c0 c1 c2
          have c0 := BA0123.out.c 0; have c1 := BA0123.out.c 1; have c2 := BA0123.out.c 2
          simp only [List.getElem?_toArray, List.getElem?_cons_zero, List.getElem?_cons_succ] at c0 c1 c2
          have HFm2 := Lib.hid (show ∃ v0 v1 v2 v3, Fam y3 w1.heap.size B 24 [v0, v1, v2, v3] [(layN s (i + 1)).ns, (layN s (i + 1)).fs, (layN s (i + 1)).ts, (layN s (i + 1)).es] from ⟨_, _, _, _, by rw [HT.out]; exact FA0123.out⟩)
          clear c0 c1 c2
          go_wp2
          go_roundw
          case rel => exact ⟨i + 1, by go_num, by omega, HFm2, FX0123⟩
          case measure => simp [RowKit.intOf]; omega
    · have hge : ¬ (i : Int) < (s.length : Int) := by omega
      have e : i = s.length := by omega
      have HFe := Lib.hid (show ∃ v0 v1 v2 v3, Fam wr w1.heap.size B 24 [v0, v1, v2, v3] [(layN s s.length).ns, (layN s s.length).fs, (layN s s.length).ts, (layN s s.length).es] by rw [← e]; exact HFm.out)
      obtain ⟨v0, v1, v2, v3, FM⟩ := HFe.out
      have hq4 := layN_len s s.length
      have FX := Lib.hid hf.out
      have BRr := Lib.hid (BR1.out.on hf.out)
      clear e HFm hf
      generalize (layN s s.length).ns = n at *
      generalize (layN s s.length).fs = f at *
      generalize (layN s s.length).ts = t at *
      generalize (layN s s.length).es = e at *
      by_cases hp : s.length = 0
      · have p1 : ¬ (0 : Int) < (s.length : Int) := by omega
        have HLW := Lib.hid (show LV = ⟨n, f, t, e⟩ by rw [HLV.out, if_pos hp, List.append_nil])
        clear hp hq4
        have hli := HLi.out
        rw [HLW.out] at hli
        obtain ⟨X, rfl, rfl, rfl, rfl, hcin⟩ := fam_cin FM hli.1 hli.2.1 hli.2.2.1 hli.2.2.2
        have HCIN := Lib.hid hcin
        have k0 := FM.c 0; have k1 := FM.c 1; have k2 := FM.c 2; have k3 := FM.c 3
        have E := BRr.out
        unfold emK at E
        have r0 := E.c 0; have r1 := E.c 1; have r2 := E.c 2; have r3 := E.c 3
        have t0 := E.f 0; have t1 := E.f 1; have t2 := E.f 2; have t3 := E.f 3
        simp only [List.getElem?_toArray, List.getElem?_cons_zero, List.getElem?_cons_succ] at r0 r1 r2 r3 k0 k1 k2 k3
        clear E hli hcin
        go_wp2
        have hK := set4_ok (w0 := wb) (c' := LV) (A' := X) (show Bk _ R (colC emC A0c) 24 from BRr.out) HR.out (F1.out.trans FX.out)
        have hC2 := hK.2.2 _ X HCIN.out
        rw [← HLW.out] at hC2
        unfold set4 at hK hC2
        rw [HLX.out]
        rw [HLW.out] at hK hC2 ⊢
        exact c_ret rfl rfl hK.1 ⟨X, rfl, hC2, hK.2.1⟩
      · have p1 : (0 : Int) < (s.length : Int) := by omega
        have HLW := Lib.hid (show LV = ⟨n, f ++ [(s.length : Int)], t, e⟩ by rw [HLV.out, if_neg hp])
        have HLn1 := Lib.hid (show f.length ≤ 5000 by omega)
        have FA := Lib.hid FM
        clear hp hq4
        have k0 : wr.cell? ⟨B, 1, none⟩ = some v1 := FA.out.c 1
        have f0 := FA.out.f 1
        go_upto_region 14 with (at_builtin; refine wpList_append_lies _ rfl (.tmp 60) (.tmp 63) 22 rfl w1.heap.size 3 i0 (.int .i64 0) 1 8 Tryz.underlying22 hi0 hz0 hz1 hz2 rfl (by decide) _ f.length (cs f) rfl (own_on (FA.out.o 1 (by simp) (by simp)) (fuwA _ _)) ⟨wr.heap.size, 0, none⟩ 1 1 [.int .i64 (s.length : Int)] rfl rfl (World.news_of_block (heap_alloc_new wr _)) (one_int _) (by decide) (by have := HLn1.out; unfold maxLen; omega) (by have := HLn1.out; omega) (Nat.le_trans FX.out.size (by simp)) _ rfl ?_; intro g1 p1 w5 hown5 hgrow hat _; have FT := Lib.hid (FA.out.on (fuwA wr (.cells #[.int .i64 (s.length : Int)] 3))); have MT := Lib.hid (FT.out.mid tyC (j := 1) (by simp) (by simp) hgrow); have k1 : w5.cell? ⟨B, 1, none⟩ = some v1 := MT.out.c 1; have f1 := MT.out.f 1; have FP := Lib.hid (FT.out.app tyC (j := 1) (by simp) (by simp) hown5 hgrow (lies_at hat)); have FQ := Lib.hid (FT.out.appW (FX.out.trans (fuwA _ _)) (j := 1) (by simp) (by simp) hgrow (.slice (some ⟨g1, 0, none⟩) (f.length + 1) p1)); clear hown5 hgrow hat MT)
        obtain ⟨y9, hw⟩ : ∃ y9, w5.setCell ⟨B, 1, none⟩ (.slice (some ⟨g1, 0, none⟩) (f.length + 1) p1) = y9 := ⟨_, rfl⟩
        rw [hw] at FP FQ
        have FA1 := Lib.hid (show Fam y9 w1.heap.size B 24 [v0, .slice (some ⟨g1, 0, none⟩) (f.length + 1) p1, v2, v3] [n, (f ++ [(s.length : Int)]), t, e] from FP.out)
        have FX1 := FQ
        rw [hw]
        clear hw k1 f1 FT FP k0 f0
        have FE : ∃ v1', Fam y9 w1.heap.size B 24 [v0, v1', v2, v3] [n, f ++ [(s.length : Int)], t, e] := ⟨_, FA1.out⟩
        clear FM
        obtain ⟨v1', FM⟩ := FE
        obtain ⟨F, hF⟩ : ∃ F, f ++ [(s.length : Int)] = F := ⟨_, rfl⟩
        rw [hF] at FM HLW
        clear hF FA1 FA
        replace BRr := Lib.hid (BR1.out.on FX1.out)
        have FX := FX1
        have hli := HLi.out
        rw [HLW.out] at hli
        obtain ⟨X, rfl, rfl, rfl, rfl, hcin⟩ := fam_cin FM hli.1 hli.2.1 hli.2.2.1 hli.2.2.2
        have HCIN := Lib.hid hcin
        have k0 := FM.c 0; have k1 := FM.c 1; have k2 := FM.c 2; have k3 := FM.c 3
        have E := BRr.out
        unfold emK at E
        have r0 := E.c 0; have r1 := E.c 1; have r2 := E.c 2; have r3 := E.c 3
        have t0 := E.f 0; have t1 := E.f 1; have t2 := E.f 2; have t3 := E.f 3
        simp only [List.getElem?_toArray, List.getElem?_cons_zero, List.getElem?_cons_succ] at r0 r1 r2 r3 k0 k1 k2 k3
        clear E hli hcin
        go_wp2
        have hK := set4_ok (w0 := wb) (c' := LV) (A' := X) (show Bk _ R (colC emC A0c) 24 from BRr.out) HR.out (F1.out.trans FX.out)
        have hC2 := hK.2.2 _ X HCIN.out
        rw [← HLW.out] at hC2
        unfold set4 at hK hC2
        rw [HLX.out]
        rw [HLW.out] at hK hC2 ⊢
        exact c_ret rfl rfl hK.1 ⟨X, rfl, hC2, hK.2.1⟩
end Go.Proofs.YtpjikijfendmhaaGreat
