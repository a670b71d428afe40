import Derived.Test.YtpamdlkagmlahaaGreatDoorTxE
import Derived.Test.YtpamdlkagmlahaaGreatDoorK33
namespace Go.Proofs.YtpamdlkagmlahaaGreatDoor
open Go.RowKit
def ch0 (op id : Int) : Ch := ⟨op, id, 0, 0, [], .mk 0 0 0 [] []⟩
def alG : Gr := ⟨[⟨3, [], []⟩], [], 4, 1⟩
def alH : Gr := ⟨[], [], 4, 1⟩
def alX : Gr := ⟨[⟨1, [[65]], [⟨[107], .mk 2 5 0 [] []⟩]⟩], [], 2, 1⟩
def alL : Gr := ⟨[⟨1, [], []⟩], [⟨1, 1, 1, [84], []⟩], 2, 2⟩
def alc0 : Ch := ch0 1 1
def alc1 : Ch := ⟨3, 1, 0, 0, [65], .mk 0 0 0 [] []⟩
def alc2 : Ch := ⟨5, 1, 0, 0, [107], .mk 2 5 0 [] []⟩
theorem m0 : (0 : Nat) ≤ maxLen := by unfold maxLen; decide
theorem ch0_in (op id : Int) (h : I64 op) (h' : I64 id) (w : World) : ChIn w (ch0 op id) none 0 := ⟨h, h', i0, i0, m0, ⟨i0, i0, i0, m0⟩, ⟨Nat.le_refl _, m0, fun _ => rfl, fun h => absurd (show 0 < 0 from h) (by decide)⟩⟩
def RetAx (w : World) (T : Gr) (n m : Nat) (r : Int) (e : Ending) (w' : World) : Prop := ∃ an ae cn ce, e = .returned (.tuple #[.agg #[.slice an n cn, .slice ae m ce, .int .i64 T.nn, .int .i64 T.ne], .int .i64 r]) ∧ GIn w' T an ae cn ce ∧ Fuw w w'
theorem al_ax {g T : Gr} {c : Ch} {n m : Nat} {r : Int} {w : World} (h1 : appG g [c] = T) (h2 : (appE g [c]).2 = r) (h3 : T.ns.length = n) (h4 : T.es.length = m) {e : Ending} {w' : World} (h : RetA1 w g c e w') : RetAx w T n m r e w' := by
 obtain ⟨a1, a2, c1, c2, rfl, hg, f⟩ := h
 subst h1 h2 h3 h4
 exact ⟨a1, a2, c1, c2, rfl, hg, f⟩
theorem al_0 (w : World) : Calls Tryz.prog 17 #[] w (fun e w' => ∃ an ae cn ce, e = .returned (.agg #[.slice an 0 cn, .slice ae 0 ce, .int .i64 1, .int .i64 1]) ∧ GIn w' nilG an ae cn ce ∧ Fuw w w') :=
 (new_any w).mono fun e w' h => by
  obtain ⟨a1, a2, c1, c2, rfl, hg, f⟩ := h
  exact ⟨a1, a2, c1, c2, rfl, hg, f⟩
theorem al_1 {w : World} {an ae : Option Addr} {cn ce : Nat} (hg : GIn w nilG an ae cn ce) : Calls Tryz.prog 7 #[.agg #[.slice an 0 cn, .slice ae 0 ce, .int .i64 1, .int .i64 1], .agg #[.int .i64 1, .int .i64 3, .int .i64 0, .int .i64 0, .string ⟨#[]⟩, .int .i64 0, .int .i64 0, .int .i64 0, .string ⟨#[]⟩, .slice none 0 0]] w (RetAx w alG 1 0 0) :=
 (apply_any nilG an ae cn ce (ch0 1 3) none 0 w hg (ch0_in 1 3 i1 i3 w)).mono fun _ _ h => al_ax (by kernel_rfl) (by kernel_rfl) rfl rfl h
theorem al_2 {w : World} {an ae : Option Addr} {cn ce : Nat} (hg : GIn w alG an ae cn ce) : Calls Tryz.prog 7 #[.agg #[.slice an 1 cn, .slice ae 0 ce, .int .i64 4, .int .i64 1], .agg #[.int .i64 2, .int .i64 3, .int .i64 0, .int .i64 0, .string ⟨#[]⟩, .int .i64 0, .int .i64 0, .int .i64 0, .string ⟨#[]⟩, .slice none 0 0]] w (RetAx w alH 0 0 0) :=
 (apply_any alG an ae cn ce (ch0 2 3) none 0 w hg (ch0_in 2 3 i2 i3 w)).mono fun _ _ h => al_ax (by kernel_rfl) (by kernel_rfl) rfl rfl h
theorem al_3 {w : World} {an ae : Option Addr} {cn ce : Nat} (hg : GIn w alL an ae cn ce) : Calls Tryz.prog 7 #[.agg #[.slice an 1 cn, .slice ae 1 ce, .int .i64 2, .int .i64 2], .agg #[.int .i64 2, .int .i64 1, .int .i64 0, .int .i64 0, .string ⟨#[]⟩, .int .i64 0, .int .i64 0, .int .i64 0, .string ⟨#[]⟩, .slice none 0 0]] w (RetAx w zerG 0 0 12) :=
 (apply_any alL an ae cn ce (ch0 2 1) none 0 w hg (ch0_in 2 1 i2 i1 w)).mono fun _ _ h => al_ax (by kernel_rfl) (by kernel_rfl) rfl rfl h
def RowAt (w : World) (g : Nat) (l : List Value) : Prop := ∀ j u, l[j]? = some u → w.cell? ⟨g, j, none⟩ = some u
theorem RowAt.on {w w' : World} {g : Nat} {l : List Value} (h : RowAt w g l) (hf : Fuw w w') : RowAt w' g l := fun j u q => cellOnw hf (h j u q)
theorem J_on {c : Ch} {m : AC} {w w' : World} (h : LC.J c m w) (hf : Fuw w w') : LC.J c m w' := SlV.onw (show SlV w m.1 c.v.ll m.2 from h) hf
theorem ok_in {c : Ch} {m : AC} {w0 w : World} (h : LC.I c ∧ LC.J c m w0) (hf : Fuw w0 w) : ChIn w c m.1 m.2 := ⟨h.1.1, h.1.2.1, h.1.2.2.1, h.1.2.2.2.1, h.1.2.2.2.2.1, h.1.2.2.2.2.2, J_on h.2 hf⟩
def alRow (a b c : AC) : List Value := [.int .i64 1, .int .i64 1, .int .i64 0, .int .i64 0, .string ⟨#[]⟩, .int .i64 0, .int .i64 0, .int .i64 0, .string ⟨#[]⟩, .slice a.1 0 a.2,
 .int .i64 3, .int .i64 1, .int .i64 0, .int .i64 0, .string ⟨#[65]⟩, .int .i64 0, .int .i64 0, .int .i64 0, .string ⟨#[]⟩, .slice b.1 0 b.2,
 .int .i64 5, .int .i64 1, .int .i64 0, .int .i64 0, .string ⟨#[107]⟩, .int .i64 2, .int .i64 5, .int .i64 0, .string ⟨#[]⟩, .slice c.1 0 c.2]
theorem al_5 {w0 w : World} {an ae : Option Addr} {cn ce B : Nat} {t : TypeId} (hg : GIn w0 alX an ae cn ce) (hf : Fuw w0 w) (hB : Bk w B #[.int .i64 2, .int .i64 1, .int .i64 0, .int .i64 0, .string ⟨#[]⟩, .int .i64 0, .int .i64 0, .int .i64 0, .string ⟨#[]⟩, .slice none 0 0] t) :
  Calls Tryz.prog 12 #[.agg #[.slice an 1 cn, .slice ae 0 ce, .int .i64 2, .int .i64 1], .slice (some ⟨B, 0, none⟩) 1 1] w (fun e w' => ∃ (g k : Nat) (a b c : AC), e = .returned (.tuple #[.slice (some ⟨g, 0, none⟩) 3 k, .int .i64 1, .int .i64 0]) ∧ RowAt w' g (alRow a b c) ∧ (ChIn w0 alc0 a.1 a.2 ∧ ChIn w0 alc1 b.1 b.2 ∧ ChIn w0 alc2 c.1 c.2) ∧ Fuw w w') := by
 refine (invert_by alX an ae cn ce [ch0 2 1] (some ⟨B, 0, none⟩) 1 w0 w hg (slC_one (c := ch0 2 1) (a := none) (k := 0) hB (ch0_in 2 1 i2 i1 w0) hf) hf (by decide) (fun c hc => by rw [List.mem_singleton] at hc; subst hc; exact inverse_two w0 _ rfl)).mono ?_
 rintro e w' ⟨v, ps, rfl, hm, hk, ho, f⟩
 have e1 : invR alX [ch0 2 1] = [alc0, alc1, alc2] := by kernel_rfl
 have e2 : appE alX [ch0 2 1] = (1, 0) := by kernel_rfl
 rw [e1] at hm
 rw [e2]
 match ps, hm, hk, ho with
 | [(c0, a), (c1, b), (c2, c)], hm, hk, ho =>
  simp only [List.map_cons, List.map_nil, List.cons.injEq, and_true] at hm
  obtain ⟨rfl, rfl, rfl⟩ := hm
  have ho' : w'.ownsRow w.heap.size 30 10 v 3 (LC.cs [(alc0, a), (alc1, b), (alc2, c)]) := ho
  rcases ho'.2 with ⟨-, h0⟩ | ⟨g, cap, cur, rfl, -⟩
  ·cases h0
  ·refine ⟨g, cap, a, b, c, rfl, fun j u hj => ?_, ⟨ok_in (hk (alc0, a) (List.Mem.head _)) (Fuw.refl _), ok_in (hk (alc1, b) (List.Mem.tail _ (List.Mem.head _))) (Fuw.refl _), ok_in (hk (alc2, c) (List.Mem.tail _ (List.Mem.tail _ (List.Mem.head _)))) (Fuw.refl _)⟩, f⟩
   have hlt : j < 30 := by
    have := (List.getElem?_eq_some_iff.1 hj).1
    simpa [alRow] using this
   have q := ho'.cellAt j hlt
   rw [show (LC.cs [(alc0, a), (alc1, b), (alc2, c)]) = alRow a b c from rfl, hj] at q
   exact q
theorem alX_in {w : World} {S1 S2 S3 : Nat} {t1 t2 t3 : TypeId} (q1 : Bk w S1 #[.string ⟨#[65]⟩] t1) (q2 : Bk w S2 #[.string ⟨#[107]⟩, .int .i64 2, .int .i64 5, .int .i64 0, .string ⟨#[]⟩, .slice none 0 0] t2) (q3 : Bk w S3 #[.int .i64 1, .slice (some ⟨S1, 0, none⟩) 1 1, .slice (some ⟨S2, 0, none⟩) 1 1] t3) : GIn w alX (some ⟨S3, 0, none⟩) none 1 0 := by
 have i5 : I64 5 := ⟨by decide, by decide⟩
 refine ⟨⟨Nat.le_refl _, m1, (fun h => by cases h), fun _ => ⟨S3, 0, rfl, fun i hi => ?_⟩⟩, Sl.empty _, i2, i1⟩
 have hi' : i < 1 := hi
 obtain rfl : i = 0 := by omega
 refine ⟨i1, q3.c 0, ⟨some ⟨S1, 0, none⟩, 1, q3.c 1, Nat.le_refl _, m1, (fun h => by cases h), fun _ => ⟨S1, 0, rfl, fun i hi => ?_⟩⟩, some ⟨S2, 0, none⟩, 1, q3.c 2, Nat.le_refl _, m1, (fun h => by cases h), fun _ => ⟨S2, 0, rfl, fun i hi => ?_⟩⟩
 ·have hi' : i < 1 := hi
  obtain rfl : i = 0 := by omega
  exact ⟨m1, q1.c 0⟩
 ·have hi' : i < 1 := hi
  obtain rfl : i = 0 := by omega
  exact ⟨m1, q2.c 0, VC_mk (x := .mk 2 5 0 [] []) ⟨i2, i5, i0, m0⟩ (q2.c 1) (q2.c 2) (q2.c 3) (q2.c 4) (ao := none) (cap := 0) (q2.c 5) ⟨Nat.le_refl _, m0, fun _ => rfl, fun h => absurd (show 0 < 0 from h) (by decide)⟩⟩
theorem alL_in {w : World} {S1 S2 : Nat} {t1 t2 : TypeId} (q1 : Bk w S1 #[.int .i64 1, .slice none 0 0, .slice none 0 0] t1) (q2 : Bk w S2 #[.int .i64 1, .int .i64 1, .int .i64 1, .string ⟨#[84]⟩, .slice none 0 0] t2) : GIn w alL (some ⟨S1, 0, none⟩) (some ⟨S2, 0, none⟩) 1 1 := by
 refine ⟨⟨Nat.le_refl _, m1, (fun h => by cases h), fun _ => ⟨S1, 0, rfl, fun i hi => ?_⟩⟩, ⟨Nat.le_refl _, m1, (fun h => by cases h), fun _ => ⟨S2, 0, rfl, fun i hi => ?_⟩⟩, i2, i2⟩
 ·have hi' : i < 1 := hi
  obtain rfl : i = 0 := by omega
  exact ⟨i1, q1.c 0, ⟨none, 0, q1.c 1, Sl.empty _⟩, none, 0, q1.c 2, Sl.empty _⟩
 ·have hi' : i < 1 := hi
  obtain rfl : i = 0 := by omega
  exact ⟨i1, i1, i1, m1, q2.c 0, q2.c 1, q2.c 2, q2.c 3, none, 0, q2.c 4, Sl.empty _⟩
theorem al_x0 : Lib.join (wordsC alc0) [32] = [43, 110, 111, 100, 101, 32, 49] := by decide +kernel
theorem al_y0 {a : AC} {w : World} (h : ChIn w alc0 a.1 a.2) (G : Good w) : Calls Tryz.prog 18 #[.agg #[.int .i64 1, .int .i64 1, .int .i64 0, .int .i64 0, .string ⟨#[]⟩, .int .i64 0, .int .i64 0, .int .i64 0, .string ⟨#[]⟩, .slice a.1 0 a.2]] w (fun e w' => e = .returned (.string ⟨#[43, 110, 111, 100, 101, 32, 49]⟩) ∧ Fuw w w') := by
 refine (textc_raw alc0 a.1 a.2 w h G (by decide +kernel) (by rw [al_x0]; decide) (fun q => absurd q (by decide))).mono ?_
 rintro e w' ⟨rfl, f⟩
 rw [al_x0]
 exact ⟨rfl, f⟩
theorem al_x1 : Lib.join (wordsC alc1) [32] = [43, 108, 97, 98, 101, 108, 32, 49, 32, 65] := by decide +kernel
theorem al_y1 {a : AC} {w : World} (h : ChIn w alc1 a.1 a.2) (G : Good w) : Calls Tryz.prog 18 #[.agg #[.int .i64 3, .int .i64 1, .int .i64 0, .int .i64 0, .string ⟨#[65]⟩, .int .i64 0, .int .i64 0, .int .i64 0, .string ⟨#[]⟩, .slice a.1 0 a.2]] w (fun e w' => e = .returned (.string ⟨#[43, 108, 97, 98, 101, 108, 32, 49, 32, 65]⟩) ∧ Fuw w w') := by
 refine (textc_raw alc1 a.1 a.2 w h G (by decide +kernel) (by rw [al_x1]; decide) (fun q => absurd q (by decide))).mono ?_
 rintro e w' ⟨rfl, f⟩
 rw [al_x1]
 exact ⟨rfl, f⟩
theorem al_x2 : Lib.join (wordsC alc2) [32] = [115, 101, 116, 32, 49, 32, 107, 32, 53] := by decide +kernel
theorem al_y2 {a : AC} {w : World} (h : ChIn w alc2 a.1 a.2) (G : Good w) : Calls Tryz.prog 18 #[.agg #[.int .i64 5, .int .i64 1, .int .i64 0, .int .i64 0, .string ⟨#[107]⟩, .int .i64 2, .int .i64 5, .int .i64 0, .string ⟨#[]⟩, .slice a.1 0 a.2]] w (fun e w' => e = .returned (.string ⟨#[115, 101, 116, 32, 49, 32, 107, 32, 53]⟩) ∧ Fuw w w') := by
 refine (textc_raw alc2 a.1 a.2 w h G (by decide +kernel) (by rw [al_x2]; decide) (fun _ w' hf G' => ltext_int 5 0 [] [] (by decide +kernel) ⟨by decide, by decide⟩ a.1 a.2 w' h.v (h.s.onw hf) G')).mono ?_
 rintro e w' ⟨rfl, f⟩
 rw [al_x2]
 exact ⟨rfl, f⟩
set_option maxHeartbeats 12800000 in
set_option maxRecDepth 100000 in
theorem alivec_any (w : World) (G : Good w) : Calls Tryz.prog 6 #[] w (FwB w true) := by
 have HG := Lib.hid G
 have H0 := Lib.hid al_0
 have H1 := Lib.hid (fun (w : World) (an ae : Option Addr) (cn ce : Nat) (hg : GIn w nilG an ae cn ce) => al_1 hg)
 have H2 := Lib.hid (fun (w : World) (an ae : Option Addr) (cn ce : Nat) (hg : GIn w alG an ae cn ce) => al_2 hg)
 have H3 := Lib.hid (fun (w : World) (an ae : Option Addr) (cn ce : Nat) (hg : GIn w alL an ae cn ce) => al_3 hg)
 clear G
 unfold RetAx at H1 H2 H3
 go_enter Tryz.func6, Tryz.ntmps6
 go_wp2_with fail
 go_at_call 17; refine (H0.out _).mono ?_; rintro e1 w1 ⟨a1, a2, k1, k2, rfl, hg1, f1⟩
 have HF1 := Lib.hid f1
 have HG1 := Lib.hid hg1
 clear f1 hg1
 go_wp2_with fail
 go_at_call 7; refine (H1.out _ _ _ _ _ HG1.out).mono ?_; rintro e2 w2 ⟨a3, a4, k3, k4, rfl, hg2, f2⟩
 obtain ⟨X1, hX⟩ : ∃ X, X = w2.alloc (.cells #[.slice a3 1 k3, .slice a4 0 k4, .int .i64 4, .int .i64 1] 25) := ⟨_, rfl⟩
 have f3 : Fuw w2 X1 := by rw [hX]; exact fuwA _ _
 have b1 : Bk X1 w2.heap.size #[.slice a3 1 k3, .slice a4 0 k4, .int .i64 4, .int .i64 1] 25 := by rw [hX]; exact Bk.new _ _ _
 have HF3 := Lib.hid (HF1.out.trans (f2.trans f3))
 have HB1 := Lib.hid b1
 have HG2 := Lib.hid (hg2.on f3)
 clear f2 f3 b1 hg2 HG1 HF1
 go_upto_region 2 with fail
 rw [show (w2.alloc (.cells #[.slice a3 1 k3, .slice a4 0 k4, .int .i64 alG.nn, .int .i64 alG.ne] 25)) = X1 from hX.symm]
 clear hX
 have c0 := HB1.out.c 0; have c1 := HB1.out.c 1; have c2 := HB1.out.c 2; have c3 := HB1.out.c 3
 go_wp2_with fail
 go_at_call 7; refine (H2.out _ _ _ _ _ HG2.out).mono ?_; rintro e3 w3 ⟨a5, a6, k5, k6, rfl, hg3, f3⟩
 clear c0 c1 c2 c3
 obtain ⟨X2, hX⟩ : ∃ X, X = w3.alloc (.cells #[.slice a5 0 k5, .slice a6 0 k6, .int .i64 4, .int .i64 1] 25) := ⟨_, rfl⟩
 have f4 : Fuw w3 X2 := by rw [hX]; exact fuwA _ _
 have b2 : Bk X2 w3.heap.size #[.slice a5 0 k5, .slice a6 0 k6, .int .i64 4, .int .i64 1] 25 := by rw [hX]; exact Bk.new _ _ _
 have HF4 := Lib.hid (HF3.out.trans (f3.trans f4))
 have HC1 := Lib.hid (HB1.out.on (f3.trans f4))
 have HB2 := Lib.hid b2
 clear f3 f4 b2 hg3 HF3 HB1 HG2
 go_upto_region 3 with fail
 rw [show (w3.alloc (.cells #[.slice a5 0 k5, .slice a6 0 k6, .int .i64 alH.nn, .int .i64 alH.ne] 25)) = X2 from hX.symm]
 clear hX
 generalize w2.heap.size = B1 at *
 generalize w3.heap.size = B2 at *
 obtain ⟨X3, hX⟩ : ∃ X, X = X2.alloc (.cells #[.int .i64 2, .int .i64 5, .int .i64 0, .string ⟨#[]⟩, .slice none 0 0] 28) := ⟨_, rfl⟩
 have f5 : Fuw X2 X3 := by rw [hX]; exact fuwA _ _
 have b3 : Bk X3 X2.heap.size #[.int .i64 2, .int .i64 5, .int .i64 0, .string ⟨#[]⟩, .slice none 0 0] 28 := by rw [hX]; exact Bk.new _ _ _
 have HF5 := Lib.hid (HF4.out.trans f5)
 have HC2 := Lib.hid (HC1.out.on f5)
 have HD2 := Lib.hid (HB2.out.on f5)
 go_upto_region 4 with fail
 rw [← hX]
 clear hX f5 HF4 HC1 HB2
 generalize X2.heap.size = B3 at *
 have fy := fuwA X3 (.cells #[.string ⟨#[65]⟩] 9)
 have c0 := (b3.on fy).c 0
 have c1 := (b3.on fy).c 1
 have c2 := (b3.on fy).c 2
 have c3 := (b3.on fy).c 3
 have c4 := (b3.on fy).c 4
 clear b3 fy
 have HB2 := Lib.hid HD2.out
 obtain ⟨S, hS⟩ : ∃ S, S = X3.heap.size := ⟨_, rfl⟩
 obtain ⟨X4, hX⟩ : ∃ X, X = (((X3.alloc (.cells #[.string ⟨#[65]⟩] 9)).alloc (.cells #[.string ⟨#[107]⟩, .int .i64 2, .int .i64 5, .int .i64 0, .string ⟨#[]⟩, .slice none 0 0] 48)).alloc (.cells #[.int .i64 1, .slice (some ⟨S, 0, none⟩) 1 1, .slice (some ⟨S + 1, 0, none⟩) 1 1] 51)).alloc (.cells #[.slice (some ⟨S + 1 + 1, 0, none⟩) 1 1, .slice none 0 0, .int .i64 2, .int .i64 1] 25) := ⟨_, rfl⟩
 have f6 : Fuw X3 X4 := by rw [hX]; exact (((fuwA _ _).trans (fuwA _ _)).trans (fuwA _ _)).trans (fuwA _ _)
 have q1 : Bk X4 S #[.string ⟨#[65]⟩] 9 := by
  rw [hX]; exact Bk.on (by rw [hS]; exact Bk.new _ _ _) (((fuwA _ _).trans (fuwA _ _)).trans (fuwA _ _))
 have q2 : Bk X4 (S + 1) #[.string ⟨#[107]⟩, .int .i64 2, .int .i64 5, .int .i64 0, .string ⟨#[]⟩, .slice none 0 0] 48 := by
  rw [hX]; exact Bk.on (by rw [hS]; have := Bk.new (X3.alloc (.cells #[.string ⟨#[65]⟩] 9)) #[.string ⟨#[107]⟩, .int .i64 2, .int .i64 5, .int .i64 0, .string ⟨#[]⟩, .slice none 0 0] 48; simpa using this) ((fuwA _ _).trans (fuwA _ _))
 have q3 : Bk X4 (S + 1 + 1) #[.int .i64 1, .slice (some ⟨S, 0, none⟩) 1 1, .slice (some ⟨S + 1, 0, none⟩) 1 1] 51 := by
  rw [hX]; exact Bk.on (by have := Bk.new ((X3.alloc (.cells #[.string ⟨#[65]⟩] 9)).alloc (.cells #[.string ⟨#[107]⟩, .int .i64 2, .int .i64 5, .int .i64 0, .string ⟨#[]⟩, .slice none 0 0] 48)) #[.int .i64 1, .slice (some ⟨S, 0, none⟩) 1 1, .slice (some ⟨S + 1, 0, none⟩) 1 1] 51; rw [show S + 1 + 1 = ((X3.alloc (.cells #[.string ⟨#[65]⟩] 9)).alloc (.cells #[.string ⟨#[107]⟩, .int .i64 2, .int .i64 5, .int .i64 0, .string ⟨#[]⟩, .slice none 0 0] 48)).heap.size by simp [hS]]; exact this) (fuwA _ _)
 have q4 : Bk X4 (S + 1 + 1 + 1) #[.slice (some ⟨S + 1 + 1, 0, none⟩) 1 1, .slice none 0 0, .int .i64 2, .int .i64 1] 25 := by
  rw [hX]
  have := Bk.new (((X3.alloc (.cells #[.string ⟨#[65]⟩] 9)).alloc (.cells #[.string ⟨#[107]⟩, .int .i64 2, .int .i64 5, .int .i64 0, .string ⟨#[]⟩, .slice none 0 0] 48)).alloc (.cells #[.int .i64 1, .slice (some ⟨S, 0, none⟩) 1 1, .slice (some ⟨S + 1, 0, none⟩) 1 1] 51)) #[.slice (some ⟨S + 1 + 1, 0, none⟩) 1 1, .slice none 0 0, .int .i64 2, .int .i64 1] 25
  rw [show S + 1 + 1 + 1 = (((X3.alloc (.cells #[.string ⟨#[65]⟩] 9)).alloc (.cells #[.string ⟨#[107]⟩, .int .i64 2, .int .i64 5, .int .i64 0, .string ⟨#[]⟩, .slice none 0 0] 48)).alloc (.cells #[.int .i64 1, .slice (some ⟨S, 0, none⟩) 1 1, .slice (some ⟨S + 1, 0, none⟩) 1 1] 51)).heap.size by simp [hS]]
  exact this
 have hgx := alX_in q1 q2 q3
 have HG5 := Lib.hid hgx
 have HQ4 := Lib.hid q4
 have HF6 := Lib.hid (HF5.out.trans f6)
 have HC3 := Lib.hid (HC2.out.on f6)
 have HD3 := Lib.hid (HD2.out.on f6)
 go_upto_region 5 with fail
 rw [← hS, ← hX]
 clear hX hS q1 q2 q3 q4 hgx f6 c0 c1 c2 c3 c4 HF5 HC2 HD2 HB2
 have c0 := HQ4.out.c 0; have c1 := HQ4.out.c 1; have c2 := HQ4.out.c 2; have c3 := HQ4.out.c 3
 obtain ⟨X5, hX⟩ : ∃ X, X = X4.alloc (.cells #[.int .i64 2, .int .i64 1, .int .i64 0, .int .i64 0, .string ⟨#[]⟩, .int .i64 0, .int .i64 0, .int .i64 0, .string ⟨#[]⟩, .slice none 0 0] 30) := ⟨_, rfl⟩
 have f7 : Fuw X4 X5 := by rw [hX]; exact fuwA _ _
 have b7 : Bk X5 X4.heap.size #[.int .i64 2, .int .i64 1, .int .i64 0, .int .i64 0, .string ⟨#[]⟩, .int .i64 0, .int .i64 0, .int .i64 0, .string ⟨#[]⟩, .slice none 0 0] 30 := by rw [hX]; exact Bk.new _ _ _
 have HI := Lib.hid (al_5 HG5.out f7 b7)
 rw [hX] at HI
 have HF7 := Lib.hid (show Fuw w (X4.alloc (.cells #[.int .i64 2, .int .i64 1, .int .i64 0, .int .i64 0, .string ⟨#[]⟩, .int .i64 0, .int .i64 0, .int .i64 0, .string ⟨#[]⟩, .slice none 0 0] 30)) from by rw [← hX]; exact HF6.out.trans f7)
 have HX7 := Lib.hid (show Fuw X4 (X4.alloc (.cells #[.int .i64 2, .int .i64 1, .int .i64 0, .int .i64 0, .string ⟨#[]⟩, .int .i64 0, .int .i64 0, .int .i64 0, .string ⟨#[]⟩, .slice none 0 0] 30)) from fuwA _ _)
 clear hX f7 b7
 go_wp2_with fail
 go_at_call 12; refine HI.out.mono ?_; rintro e4 w4 ⟨g, k, m1, m2, m3, rfl, hrow, hcs, f8⟩
 have HF8 := Lib.hid (HX7.out.trans f8)
 have HFW := Lib.hid (HF7.out.trans f8)
 have HRW := Lib.hid hrow
 have HCS := Lib.hid hcs
 have HC4 := Lib.hid (HC3.out.on HF8.out)
 have HD4 := Lib.hid (HD3.out.on HF8.out)
 clear HI HX7 HF7 HF6 HC3 HD3 c0 c1 c2 c3 HG5 HQ4 f8 hrow hcs
 go_upto_region 6 with fail
 obtain ⟨S, hS⟩ : ∃ S, S = w4.heap.size := ⟨_, rfl⟩
 obtain ⟨X6, hX⟩ : ∃ X, X = ((w4.alloc (.cells #[.int .i64 1, .slice none 0 0, .slice none 0 0] 51)).alloc (.cells #[.int .i64 1, .int .i64 1, .int .i64 1, .string ⟨#[84]⟩, .slice none 0 0] 53)).alloc (.cells #[.slice (some ⟨S, 0, none⟩) 1 1, .slice (some ⟨S + 1, 0, none⟩) 1 1, .int .i64 2, .int .i64 2] 25) := ⟨_, rfl⟩
 have f6 : Fuw w4 X6 := by rw [hX]; exact ((fuwA _ _).trans (fuwA _ _)).trans (fuwA _ _)
 have q1 : Bk X6 S #[.int .i64 1, .slice none 0 0, .slice none 0 0] 51 := by
  rw [hX]; exact Bk.on (by rw [hS]; exact Bk.new _ _ _) ((fuwA _ _).trans (fuwA _ _))
 have q2 : Bk X6 (S + 1) #[.int .i64 1, .int .i64 1, .int .i64 1, .string ⟨#[84]⟩, .slice none 0 0] 53 := by
  rw [hX]; exact Bk.on (by rw [hS]; have := Bk.new (w4.alloc (.cells #[.int .i64 1, .slice none 0 0, .slice none 0 0] 51)) #[.int .i64 1, .int .i64 1, .int .i64 1, .string ⟨#[84]⟩, .slice none 0 0] 53; simpa using this) (fuwA _ _)
 have q3 : Bk X6 (S + 1 + 1) #[.slice (some ⟨S, 0, none⟩) 1 1, .slice (some ⟨S + 1, 0, none⟩) 1 1, .int .i64 2, .int .i64 2] 25 := by
  rw [hX]
  have := Bk.new ((w4.alloc (.cells #[.int .i64 1, .slice none 0 0, .slice none 0 0] 51)).alloc (.cells #[.int .i64 1, .int .i64 1, .int .i64 1, .string ⟨#[84]⟩, .slice none 0 0] 53)) #[.slice (some ⟨S, 0, none⟩) 1 1, .slice (some ⟨S + 1, 0, none⟩) 1 1, .int .i64 2, .int .i64 2] 25
  rw [show S + 1 + 1 = ((w4.alloc (.cells #[.int .i64 1, .slice none 0 0, .slice none 0 0] 51)).alloc (.cells #[.int .i64 1, .int .i64 1, .int .i64 1, .string ⟨#[84]⟩, .slice none 0 0] 53)).heap.size by simp [hS]]
  exact this
 have HG6 := Lib.hid (alL_in q1 q2)
 have HQ3 := Lib.hid q3
 have HF9 := Lib.hid (HFW.out.trans f6)
 have HFA := Lib.hid (HF8.out.trans f6)
 have HRA := Lib.hid (HRW.out.on f6)
 have HC5 := Lib.hid (HC4.out.on f6)
 have HD5 := Lib.hid (HD4.out.on f6)
 go_upto_region 7 with fail
 rw [← hS, ← hX]
 clear hX hS q1 q2 q3 f6 HF8 HFW HRW HC4 HD4
 have c0 := HQ3.out.c 0; have c1 := HQ3.out.c 1; have c2 := HQ3.out.c 2; have c3 := HQ3.out.c 3
 go_wp2_with fail
 go_at_call 7; refine (H3.out _ _ _ _ _ HG6.out).mono ?_; rintro e5 w5 ⟨a7, a8, k7, k8, rfl, -, f9⟩
 clear c0 c1 c2 c3
 obtain ⟨X8, hX⟩ : ∃ X, X = w5.alloc (.cells #[.slice a7 0 k7, .slice a8 0 k8, .int .i64 zerG.nn, .int .i64 zerG.ne] 25) := ⟨_, rfl⟩
 have f10 : Fuw w5 X8 := by rw [hX]; exact fuwA _ _
 have HFB := Lib.hid (HF9.out.trans (f9.trans f10))
 have HFC := Lib.hid (HFA.out.trans (f9.trans f10))
 have HRB := Lib.hid (HRA.out.on (f9.trans f10))
 have hC := HC5.out.on (f9.trans f10)
 have hD := HD5.out.on (f9.trans f10)
 have HT0 := Lib.hid (fun (w' : World) (hf : Fuw X8 w') => al_y0 (a := m1) (HCS.out.1.on (HFC.out.trans hf)) (HG.out.onw (HFB.out.trans hf)))
 have HT1 := Lib.hid (fun (w' : World) (hf : Fuw X8 w') => al_y1 (a := m2) (HCS.out.2.1.on (HFC.out.trans hf)) (HG.out.onw (HFB.out.trans hf)))
 have HT2 := Lib.hid (fun (w' : World) (hf : Fuw X8 w') => al_y2 (a := m3) (HCS.out.2.2.on (HFC.out.trans hf)) (HG.out.onw (HFB.out.trans hf)))
 have x0 := hC.c 0; have x2 := hC.c 2; have y0 := hD.c 0; have y2 := hD.c 2
 have z0 := HRB.out 0 _ rfl
 have z1 := HRB.out 1 _ rfl
 have z2 := HRB.out 2 _ rfl
 have z3 := HRB.out 3 _ rfl
 have z4 := HRB.out 4 _ rfl
 have z5 := HRB.out 5 _ rfl
 have z6 := HRB.out 6 _ rfl
 have z7 := HRB.out 7 _ rfl
 have z8 := HRB.out 8 _ rfl
 have z9 := HRB.out 9 _ rfl
 clear HF9 HFA HRA HC5 HD5 hC hD f9 HCS HG HG6 HQ3 H0 H1 H2 H3
 go_upto_region 8 with fail
 rw [← hX]
 clear hX f10
 go_wp2_with fail
 go_at_call 18; refine (HT0.out _ (Fuw.refl _)).mono ?_; rintro e6 w6 ⟨rfl, f11⟩
 have HFD := Lib.hid f11
 have u10 := (HRB.out.on f11) 10 _ rfl
 have u11 := (HRB.out.on f11) 11 _ rfl
 have u12 := (HRB.out.on f11) 12 _ rfl
 have u13 := (HRB.out.on f11) 13 _ rfl
 have u14 := (HRB.out.on f11) 14 _ rfl
 have u15 := (HRB.out.on f11) 15 _ rfl
 have u16 := (HRB.out.on f11) 16 _ rfl
 have u17 := (HRB.out.on f11) 17 _ rfl
 have u18 := (HRB.out.on f11) 18 _ rfl
 have u19 := (HRB.out.on f11) 19 _ rfl
 clear f11
 go_wp2_with fail
 go_at_call 18; refine (HT1.out _ HFD.out).mono ?_; rintro e7 w7 ⟨rfl, f12⟩
 have HFE := Lib.hid (HFD.out.trans f12)
 have v20 := (HRB.out.on HFE.out) 20 _ rfl
 have v21 := (HRB.out.on HFE.out) 21 _ rfl
 have v22 := (HRB.out.on HFE.out) 22 _ rfl
 have v23 := (HRB.out.on HFE.out) 23 _ rfl
 have v24 := (HRB.out.on HFE.out) 24 _ rfl
 have v25 := (HRB.out.on HFE.out) 25 _ rfl
 have v26 := (HRB.out.on HFE.out) 26 _ rfl
 have v27 := (HRB.out.on HFE.out) 27 _ rfl
 have v28 := (HRB.out.on HFE.out) 28 _ rfl
 have v29 := (HRB.out.on HFE.out) 29 _ rfl
 clear f12
 go_wp2_with fail
 go_at_call 18; refine (HT2.out _ HFE.out).mono ?_; rintro e8 w8 ⟨rfl, f13⟩
 have HFF := Lib.hid (HFE.out.trans f13)
 clear f13
 go_wp2
 go_ret
 exact ⟨rfl, HFB.out.trans HFF.out⟩
end Go.Proofs.YtpamdlkagmlahaaGreatDoor
