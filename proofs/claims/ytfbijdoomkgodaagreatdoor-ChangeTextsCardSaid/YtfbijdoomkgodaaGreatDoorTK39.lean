/-
  AlA; AmA; TiA: texts of one kind in one file; each part says what it holds.
-/
import Derived.Test.YtfbijdoomkgodaaGreatDoorTK29
import Derived.Test.YtfbijdoomkgodaaGreatDoorTK38
import Derived.Test.YtfbijdoomkgodaaGreatDoorTK15
import Derived.Test.YtfbijdoomkgodaaGreatDoorTK31
import Derived.Test.YtfbijdoomkgodaaGreatDoorTM05
import Derived.Test.YtfbijdoomkgodaaGreatDoorTK37
import Derived.Test.YtfbijdoomkgodaaGreatDoorTK34

/-! The laws of package change: alive (the worked examples of the chapter hold). -/
namespace Go.Proofs.YtfbijdoomkgodaaGreatDoor
open Go.RowKit

def ch0 (op id : Int) : Ch := ⟨op, id, 0, 0, [], .mk 0 0 0 [] []⟩
def alG : Gr := ⟨[⟨3, [], []⟩], [], 4, 1⟩
def alH : Gr := ⟨[], [], 4, 1⟩
def alX : Gr := ⟨[⟨1, [[65]], [⟨[107], .mk 2 5 0 [] []⟩]⟩], [], 2, 1⟩
def alL : Gr := ⟨[⟨1, [], []⟩], [⟨1, 1, 1, [84], []⟩], 2, 2⟩
def alc0 : Ch := ch0 1 1
def alc1 : Ch := ⟨3, 1, 0, 0, [65], .mk 0 0 0 [] []⟩
def alc2 : Ch := ⟨5, 1, 0, 0, [107], .mk 2 5 0 [] []⟩
theorem m0 : (0 : Nat) ≤ maxLen := by unfold maxLen; decide
theorem ch0_in (op id : Int) (h : I64 op) (h' : I64 id) (w : World) : ChIn w (ch0 op id) none 0 := ⟨h, h', i0, i0, m0, ⟨i0, i0, i0, m0⟩, ⟨Nat.le_refl _, m0, fun _ => rfl, fun h => absurd (show 0 < 0 from h) (by decide)⟩⟩
def RetAx (w : World) (T : Gr) (n m : Nat) (r : Int) (e : Ending) (w' : World) : Prop := ∃ an ae cn ce, e = .returned (.tuple #[.agg #[.slice an n cn, .slice ae m ce, .int .i64 T.nn, .int .i64 T.ne], .int .i64 r]) ∧ GIn w' T an ae cn ce ∧ Fuw w w'
theorem al_ax {g T : Gr} {c : Ch} {n m : Nat} {r : Int} {w : World} (h1 : appG g [c] = T) (h2 : (appE g [c]).2 = r) (h3 : T.ns.length = n) (h4 : T.es.length = m) {e : Ending} {w' : World} (h : RetA1 w g c e w') : RetAx w T n m r e w' := by
  obtain ⟨a1, a2, c1, c2, rfl, hg, f⟩ := h
  subst h1 h2 h3 h4
  exact ⟨a1, a2, c1, c2, rfl, hg, f⟩
theorem al_0 (w : World) : Calls Tryz.prog 27 #[] w (fun e w' => ∃ an ae cn ce, e = .returned (.agg #[.slice an 0 cn, .slice ae 0 ce, .int .i64 1, .int .i64 1]) ∧ GIn w' nilG an ae cn ce ∧ Fuw w w') :=
  (new_any w).mono fun e w' h => by
    obtain ⟨a1, a2, c1, c2, rfl, hg, f⟩ := h
    exact ⟨a1, a2, c1, c2, rfl, hg, f⟩
theorem al_1 {w : World} {an ae : Option Addr} {cn ce : Nat} (hg : GIn w nilG an ae cn ce) : Calls Tryz.prog 10 #[.agg #[.slice an 0 cn, .slice ae 0 ce, .int .i64 1, .int .i64 1], .agg #[.int .i64 1, .int .i64 3, .int .i64 0, .int .i64 0, .string ⟨#[]⟩, .int .i64 0, .int .i64 0, .int .i64 0, .string ⟨#[]⟩, .slice none 0 0]] w (RetAx w alG 1 0 0) :=
  (apply_any nilG an ae cn ce (ch0 1 3) none 0 w hg (ch0_in 1 3 i1 i3 w)).mono fun _ _ h => al_ax (by kernel_rfl) (by kernel_rfl) rfl rfl h
theorem al_2 {w : World} {an ae : Option Addr} {cn ce : Nat} (hg : GIn w alG an ae cn ce) : Calls Tryz.prog 10 #[.agg #[.slice an 1 cn, .slice ae 0 ce, .int .i64 4, .int .i64 1], .agg #[.int .i64 2, .int .i64 3, .int .i64 0, .int .i64 0, .string ⟨#[]⟩, .int .i64 0, .int .i64 0, .int .i64 0, .string ⟨#[]⟩, .slice none 0 0]] w (RetAx w alH 0 0 0) :=
  (apply_any alG an ae cn ce (ch0 2 3) none 0 w hg (ch0_in 2 3 i2 i3 w)).mono fun _ _ h => al_ax (by kernel_rfl) (by kernel_rfl) rfl rfl h
theorem al_3 {w : World} {an ae : Option Addr} {cn ce : Nat} (hg : GIn w alL an ae cn ce) : Calls Tryz.prog 10 #[.agg #[.slice an 1 cn, .slice ae 1 ce, .int .i64 2, .int .i64 2], .agg #[.int .i64 2, .int .i64 1, .int .i64 0, .int .i64 0, .string ⟨#[]⟩, .int .i64 0, .int .i64 0, .int .i64 0, .string ⟨#[]⟩, .slice none 0 0]] w (RetAx w zerG 0 0 12) :=
  (apply_any alL an ae cn ce (ch0 2 1) none 0 w hg (ch0_in 2 1 i2 i1 w)).mono fun _ _ h => al_ax (by kernel_rfl) (by kernel_rfl) rfl rfl h
/-- A row's cells. -/
def RowAt (w : World) (g : Nat) (l : List Value) : Prop := ∀ j u, l[j]? = some u → w.cell? ⟨g, j, none⟩ = some u
theorem RowAt.on {w w' : World} {g : Nat} {l : List Value} (h : RowAt w g l) (hf : Fuw w w') : RowAt w' g l := fun j u q => cellOnw hf (h j u q)
theorem J_on {c : Ch} {m : AC} {w w' : World} (h : LC.J c m w) (hf : Fuw w w') : LC.J c m w' := SlV.onw (show SlV w m.1 c.v.ll m.2 from h) hf
theorem ok_in {c : Ch} {m : AC} {w0 w : World} (h : LC.I c ∧ LC.J c m w0) (hf : Fuw w0 w) : ChIn w c m.1 m.2 := ⟨h.1.1, h.1.2.1, h.1.2.2.1, h.1.2.2.2.1, h.1.2.2.2.2.1, h.1.2.2.2.2.2, J_on h.2 hf⟩
def alRow (a b c : AC) : List Value := [.int .i64 1, .int .i64 1, .int .i64 0, .int .i64 0, .string ⟨#[]⟩, .int .i64 0, .int .i64 0, .int .i64 0, .string ⟨#[]⟩, .slice a.1 0 a.2,
  .int .i64 3, .int .i64 1, .int .i64 0, .int .i64 0, .string ⟨#[65]⟩, .int .i64 0, .int .i64 0, .int .i64 0, .string ⟨#[]⟩, .slice b.1 0 b.2,
  .int .i64 5, .int .i64 1, .int .i64 0, .int .i64 0, .string ⟨#[107]⟩, .int .i64 2, .int .i64 5, .int .i64 0, .string ⟨#[]⟩, .slice c.1 0 c.2]
theorem al_5 {w0 w : World} {an ae : Option Addr} {cn ce B : Nat} {t : TypeId} (hg : GIn w0 alX an ae cn ce) (hf : Fuw w0 w) (hB : Bk w B #[.int .i64 2, .int .i64 1, .int .i64 0, .int .i64 0, .string ⟨#[]⟩, .int .i64 0, .int .i64 0, .int .i64 0, .string ⟨#[]⟩, .slice none 0 0] t) :
    Calls Tryz.prog 17 #[.agg #[.slice an 1 cn, .slice ae 0 ce, .int .i64 2, .int .i64 1], .slice (some ⟨B, 0, none⟩) 1 1] w (fun e w' => ∃ (g k : Nat) (a b c : AC), e = .returned (.tuple #[.slice (some ⟨g, 0, none⟩) 3 k, .int .i64 1, .int .i64 0]) ∧ RowAt w' g (alRow a b c) ∧ (ChIn w0 alc0 a.1 a.2 ∧ ChIn w0 alc1 b.1 b.2 ∧ ChIn w0 alc2 c.1 c.2) ∧ Fuw w w') := by
  refine (invert_any alX an ae cn ce [ch0 2 1] (some ⟨B, 0, none⟩) 1 w0 w hg (slC_one (c := ch0 2 1) (a := none) (k := 0) hB (ch0_in 2 1 i2 i1 w0) hf) hf (by decide)).mono ?_
  rintro e w' ⟨v, ps, rfl, hm, hk, ho, f⟩
  have e1 : invR alX [ch0 2 1] = [alc0, alc1, alc2] := by kernel_rfl
  have e2 : appE alX [ch0 2 1] = (1, 0) := by kernel_rfl
  rw [e1] at hm
  rw [e2]
  match ps, hm, hk, ho with
  | [(c0, a), (c1, b), (c2, c)], hm, hk, ho =>
    simp only [List.map_cons, List.map_nil, List.cons.injEq, and_true] at hm
    obtain ⟨rfl, rfl, rfl⟩ := hm
    have ho' : w'.ownsRow w.heap.size 30 10 v 3 (LC.cs [(alc0, a), (alc1, b), (alc2, c)]) := ho
    rcases ho'.2 with ⟨-, h0⟩ | ⟨g, cap, cur, rfl, -⟩
    · cases h0
    · refine ⟨g, cap, a, b, c, rfl, fun j u hj => ?_, ⟨ok_in (hk (alc0, a) (List.Mem.head _)) (Fuw.refl _), ok_in (hk (alc1, b) (List.Mem.tail _ (List.Mem.head _))) (Fuw.refl _), ok_in (hk (alc2, c) (List.Mem.tail _ (List.Mem.tail _ (List.Mem.head _)))) (Fuw.refl _)⟩, f⟩
      have hlt : j < 30 := by
        have := (List.getElem?_eq_some_iff.1 hj).1
        simpa [alRow] using this
      have q := ho'.cellAt j hlt
      rw [show (LC.cs [(alc0, a), (alc1, b), (alc2, c)]) = alRow a b c from rfl, hj] at q
      exact q
theorem alX_in {w : World} {S1 S2 S3 : Nat} {t1 t2 t3 : TypeId} (q1 : Bk w S1 #[.string ⟨#[65]⟩] t1) (q2 : Bk w S2 #[.string ⟨#[107]⟩, .int .i64 2, .int .i64 5, .int .i64 0, .string ⟨#[]⟩, .slice none 0 0] t2) (q3 : Bk w S3 #[.int .i64 1, .slice (some ⟨S1, 0, none⟩) 1 1, .slice (some ⟨S2, 0, none⟩) 1 1] t3) : GIn w alX (some ⟨S3, 0, none⟩) none 1 0 := by
  have i5 : I64 5 := ⟨by decide, by decide⟩
  refine ⟨⟨Nat.le_refl _, m1, (fun h => by cases h), fun _ => ⟨S3, 0, rfl, fun i hi => ?_⟩⟩, Sl.empty _, i2, i1⟩
  have hi' : i < 1 := hi
  obtain rfl : i = 0 := by omega
  refine ⟨i1, q3.c 0, ⟨some ⟨S1, 0, none⟩, 1, q3.c 1, Nat.le_refl _, m1, (fun h => by cases h), fun _ => ⟨S1, 0, rfl, fun i hi => ?_⟩⟩, some ⟨S2, 0, none⟩, 1, q3.c 2, Nat.le_refl _, m1, (fun h => by cases h), fun _ => ⟨S2, 0, rfl, fun i hi => ?_⟩⟩
  · have hi' : i < 1 := hi
    obtain rfl : i = 0 := by omega
    exact ⟨m1, q1.c 0⟩
  · have hi' : i < 1 := hi
    obtain rfl : i = 0 := by omega
    exact ⟨m1, q2.c 0, VC_mk (x := .mk 2 5 0 [] []) ⟨i2, i5, i0, m0⟩ (q2.c 1) (q2.c 2) (q2.c 3) (q2.c 4) (ao := none) (cap := 0) (q2.c 5) ⟨Nat.le_refl _, m0, fun _ => rfl, fun h => absurd (show 0 < 0 from h) (by decide)⟩⟩
theorem alL_in {w : World} {S1 S2 : Nat} {t1 t2 : TypeId} (q1 : Bk w S1 #[.int .i64 1, .slice none 0 0, .slice none 0 0] t1) (q2 : Bk w S2 #[.int .i64 1, .int .i64 1, .int .i64 1, .string ⟨#[84]⟩, .slice none 0 0] t2) : GIn w alL (some ⟨S1, 0, none⟩) (some ⟨S2, 0, none⟩) 1 1 := by
  refine ⟨⟨Nat.le_refl _, m1, (fun h => by cases h), fun _ => ⟨S1, 0, rfl, fun i hi => ?_⟩⟩, ⟨Nat.le_refl _, m1, (fun h => by cases h), fun _ => ⟨S2, 0, rfl, fun i hi => ?_⟩⟩, i2, i2⟩
  · have hi' : i < 1 := hi
    obtain rfl : i = 0 := by omega
    exact ⟨i1, q1.c 0, ⟨none, 0, q1.c 1, Sl.empty _⟩, none, 0, q1.c 2, Sl.empty _⟩
  · have hi' : i < 1 := hi
    obtain rfl : i = 0 := by omega
    exact ⟨i1, i1, i1, m1, q2.c 0, q2.c 1, q2.c 2, q2.c 3, none, 0, q2.c 4, Sl.empty _⟩
theorem al_x0 : texC alc0 = [43, 110, 111, 100, 101, 32, 49] := by decide +kernel
theorem al_y0 {a : AC} {w : World} (h : ChIn w alc0 a.1 a.2) (G : Good w) : Calls Tryz.prog 22 #[.agg #[.int .i64 1, .int .i64 1, .int .i64 0, .int .i64 0, .string ⟨#[]⟩, .int .i64 0, .int .i64 0, .int .i64 0, .string ⟨#[]⟩, .slice a.1 0 a.2]] w (fun e w' => e = .returned (.string ⟨#[43, 110, 111, 100, 101, 32, 49]⟩) ∧ Fuw w w') := by
  refine (textc_any alc0 a.1 a.2 w h G).mono ?_
  rintro e w' ⟨rfl, f⟩
  rw [al_x0]
  exact ⟨rfl, f⟩
theorem al_x1 : texC alc1 = [43, 108, 97, 98, 101, 108, 32, 49, 32, 65] := by decide +kernel
theorem al_y1 {a : AC} {w : World} (h : ChIn w alc1 a.1 a.2) (G : Good w) : Calls Tryz.prog 22 #[.agg #[.int .i64 3, .int .i64 1, .int .i64 0, .int .i64 0, .string ⟨#[65]⟩, .int .i64 0, .int .i64 0, .int .i64 0, .string ⟨#[]⟩, .slice a.1 0 a.2]] w (fun e w' => e = .returned (.string ⟨#[43, 108, 97, 98, 101, 108, 32, 49, 32, 65]⟩) ∧ Fuw w w') := by
  refine (textc_any alc1 a.1 a.2 w h G).mono ?_
  rintro e w' ⟨rfl, f⟩
  rw [al_x1]
  exact ⟨rfl, f⟩
theorem al_x2 : texC alc2 = [115, 101, 116, 32, 49, 32, 107, 32, 53] := by decide +kernel
theorem al_y2 {a : AC} {w : World} (h : ChIn w alc2 a.1 a.2) (G : Good w) : Calls Tryz.prog 22 #[.agg #[.int .i64 5, .int .i64 1, .int .i64 0, .int .i64 0, .string ⟨#[107]⟩, .int .i64 2, .int .i64 5, .int .i64 0, .string ⟨#[]⟩, .slice a.1 0 a.2]] w (fun e w' => e = .returned (.string ⟨#[115, 101, 116, 32, 49, 32, 107, 32, 53]⟩) ∧ Fuw w w') := by
  refine (textc_any alc2 a.1 a.2 w h G).mono ?_
  rintro e w' ⟨rfl, f⟩
  rw [al_x2]
  exact ⟨rfl, f⟩
set_option maxHeartbeats 12800000 in
set_option maxRecDepth 100000 in
theorem alivec_any (w : World) (G : Good w) : Calls Tryz.prog 9 #[] w (FwB w true) := by
  have HG := Lib.hid G
  have H0 := Lib.hid al_0
  have H1 := Lib.hid (fun (w : World) (an ae : Option Addr) (cn ce : Nat) (hg : GIn w nilG an ae cn ce) => al_1 hg)
  have H2 := Lib.hid (fun (w : World) (an ae : Option Addr) (cn ce : Nat) (hg : GIn w alG an ae cn ce) => al_2 hg)
  have H3 := Lib.hid (fun (w : World) (an ae : Option Addr) (cn ce : Nat) (hg : GIn w alL an ae cn ce) => al_3 hg)
  clear G
  unfold RetAx at H1 H2 H3
  go_enter Tryz.func9, Tryz.ntmps9
  go_wp2_with fail
  go_at_call 27; refine (H0.out _).mono ?_; rintro e1 w1 ⟨a1, a2, k1, k2, rfl, hg1, f1⟩
  have HF1 := Lib.hid f1
  have HG1 := Lib.hid hg1
  clear f1 hg1
  go_wp2_with fail
  go_at_call 10; refine (H1.out _ _ _ _ _ HG1.out).mono ?_; rintro e2 w2 ⟨a3, a4, k3, k4, rfl, hg2, f2⟩
  obtain ⟨X1, hX⟩ : ∃ X, X = w2.alloc (.cells #[.slice a3 1 k3, .slice a4 0 k4, .int .i64 4, .int .i64 1] 25) := ⟨_, rfl⟩
  have f3 : Fuw w2 X1 := by rw [hX]; exact fuwA _ _
  have b1 : Bk X1 w2.heap.size #[.slice a3 1 k3, .slice a4 0 k4, .int .i64 4, .int .i64 1] 25 := by rw [hX]; exact Bk.new _ _ _
  have HF3 := Lib.hid (HF1.out.trans (f2.trans f3))
  have HB1 := Lib.hid b1
  have HG2 := Lib.hid (hg2.on f3)
  clear f2 f3 b1 hg2 HG1 HF1
  go_upto_region 2 with fail
  rw [show (w2.alloc (.cells #[.slice a3 1 k3, .slice a4 0 k4, .int .i64 alG.nn, .int .i64 alG.ne] 25)) = X1 from hX.symm]
  clear hX
  have c0 := HB1.out.c 0; have c1 := HB1.out.c 1; have c2 := HB1.out.c 2; have c3 := HB1.out.c 3
  go_wp2_with fail
  go_at_call 10; refine (H2.out _ _ _ _ _ HG2.out).mono ?_; rintro e3 w3 ⟨a5, a6, k5, k6, rfl, hg3, f3⟩
  clear c0 c1 c2 c3
  obtain ⟨X2, hX⟩ : ∃ X, X = w3.alloc (.cells #[.slice a5 0 k5, .slice a6 0 k6, .int .i64 4, .int .i64 1] 25) := ⟨_, rfl⟩
  have f4 : Fuw w3 X2 := by rw [hX]; exact fuwA _ _
  have b2 : Bk X2 w3.heap.size #[.slice a5 0 k5, .slice a6 0 k6, .int .i64 4, .int .i64 1] 25 := by rw [hX]; exact Bk.new _ _ _
  have HF4 := Lib.hid (HF3.out.trans (f3.trans f4))
  have HC1 := Lib.hid (HB1.out.on (f3.trans f4))
  have HB2 := Lib.hid b2
  clear f3 f4 b2 hg3 HF3 HB1 HG2
  go_upto_region 3 with fail
  rw [show (w3.alloc (.cells #[.slice a5 0 k5, .slice a6 0 k6, .int .i64 alH.nn, .int .i64 alH.ne] 25)) = X2 from hX.symm]
  clear hX
  generalize w2.heap.size = B1 at *
  generalize w3.heap.size = B2 at *
  obtain ⟨X3, hX⟩ : ∃ X, X = X2.alloc (.cells #[.int .i64 2, .int .i64 5, .int .i64 0, .string ⟨#[]⟩, .slice none 0 0] 28) := ⟨_, rfl⟩
  have f5 : Fuw X2 X3 := by rw [hX]; exact fuwA _ _
  have b3 : Bk X3 X2.heap.size #[.int .i64 2, .int .i64 5, .int .i64 0, .string ⟨#[]⟩, .slice none 0 0] 28 := by rw [hX]; exact Bk.new _ _ _
  have HF5 := Lib.hid (HF4.out.trans f5)
  have HC2 := Lib.hid (HC1.out.on f5)
  have HD2 := Lib.hid (HB2.out.on f5)
  go_upto_region 4 with fail
  rw [← hX]
  clear hX f5 HF4 HC1 HB2
  generalize X2.heap.size = B3 at *
  have fy := fuwA X3 (.cells #[.string ⟨#[65]⟩] 9)
  have c0 := (b3.on fy).c 0
  have c1 := (b3.on fy).c 1
  have c2 := (b3.on fy).c 2
  have c3 := (b3.on fy).c 3
  have c4 := (b3.on fy).c 4
  clear b3 fy
  have HB2 := Lib.hid HD2.out
  obtain ⟨S, hS⟩ : ∃ S, S = X3.heap.size := ⟨_, rfl⟩
  obtain ⟨X4, hX⟩ : ∃ X, X = (((X3.alloc (.cells #[.string ⟨#[65]⟩] 9)).alloc (.cells #[.string ⟨#[107]⟩, .int .i64 2, .int .i64 5, .int .i64 0, .string ⟨#[]⟩, .slice none 0 0] 53)).alloc (.cells #[.int .i64 1, .slice (some ⟨S, 0, none⟩) 1 1, .slice (some ⟨S + 1, 0, none⟩) 1 1] 56)).alloc (.cells #[.slice (some ⟨S + 1 + 1, 0, none⟩) 1 1, .slice none 0 0, .int .i64 2, .int .i64 1] 25) := ⟨_, rfl⟩
  have f6 : Fuw X3 X4 := by rw [hX]; exact (((fuwA _ _).trans (fuwA _ _)).trans (fuwA _ _)).trans (fuwA _ _)
  have q1 : Bk X4 S #[.string ⟨#[65]⟩] 9 := by
    rw [hX]; exact Bk.on (by rw [hS]; exact Bk.new _ _ _) (((fuwA _ _).trans (fuwA _ _)).trans (fuwA _ _))
  have q2 : Bk X4 (S + 1) #[.string ⟨#[107]⟩, .int .i64 2, .int .i64 5, .int .i64 0, .string ⟨#[]⟩, .slice none 0 0] 53 := by
    rw [hX]; exact Bk.on (by rw [hS]; have := Bk.new (X3.alloc (.cells #[.string ⟨#[65]⟩] 9)) #[.string ⟨#[107]⟩, .int .i64 2, .int .i64 5, .int .i64 0, .string ⟨#[]⟩, .slice none 0 0] 53; simpa using this) ((fuwA _ _).trans (fuwA _ _))
  have q3 : Bk X4 (S + 1 + 1) #[.int .i64 1, .slice (some ⟨S, 0, none⟩) 1 1, .slice (some ⟨S + 1, 0, none⟩) 1 1] 56 := by
    rw [hX]; exact Bk.on (by have := Bk.new ((X3.alloc (.cells #[.string ⟨#[65]⟩] 9)).alloc (.cells #[.string ⟨#[107]⟩, .int .i64 2, .int .i64 5, .int .i64 0, .string ⟨#[]⟩, .slice none 0 0] 53)) #[.int .i64 1, .slice (some ⟨S, 0, none⟩) 1 1, .slice (some ⟨S + 1, 0, none⟩) 1 1] 56; rw [show S + 1 + 1 = ((X3.alloc (.cells #[.string ⟨#[65]⟩] 9)).alloc (.cells #[.string ⟨#[107]⟩, .int .i64 2, .int .i64 5, .int .i64 0, .string ⟨#[]⟩, .slice none 0 0] 53)).heap.size by simp [hS]]; exact this) (fuwA _ _)
  have q4 : Bk X4 (S + 1 + 1 + 1) #[.slice (some ⟨S + 1 + 1, 0, none⟩) 1 1, .slice none 0 0, .int .i64 2, .int .i64 1] 25 := by
    rw [hX]
    have := Bk.new (((X3.alloc (.cells #[.string ⟨#[65]⟩] 9)).alloc (.cells #[.string ⟨#[107]⟩, .int .i64 2, .int .i64 5, .int .i64 0, .string ⟨#[]⟩, .slice none 0 0] 53)).alloc (.cells #[.int .i64 1, .slice (some ⟨S, 0, none⟩) 1 1, .slice (some ⟨S + 1, 0, none⟩) 1 1] 56)) #[.slice (some ⟨S + 1 + 1, 0, none⟩) 1 1, .slice none 0 0, .int .i64 2, .int .i64 1] 25
    rw [show S + 1 + 1 + 1 = (((X3.alloc (.cells #[.string ⟨#[65]⟩] 9)).alloc (.cells #[.string ⟨#[107]⟩, .int .i64 2, .int .i64 5, .int .i64 0, .string ⟨#[]⟩, .slice none 0 0] 53)).alloc (.cells #[.int .i64 1, .slice (some ⟨S, 0, none⟩) 1 1, .slice (some ⟨S + 1, 0, none⟩) 1 1] 56)).heap.size by simp [hS]]
    exact this
  have hgx := alX_in q1 q2 q3
  have HG5 := Lib.hid hgx
  have HQ4 := Lib.hid q4
  have HF6 := Lib.hid (HF5.out.trans f6)
  have HC3 := Lib.hid (HC2.out.on f6)
  have HD3 := Lib.hid (HD2.out.on f6)
  go_upto_region 5 with fail
  rw [← hS, ← hX]
  clear hX hS q1 q2 q3 q4 hgx f6 c0 c1 c2 c3 c4 HF5 HC2 HD2 HB2
  have c0 := HQ4.out.c 0; have c1 := HQ4.out.c 1; have c2 := HQ4.out.c 2; have c3 := HQ4.out.c 3
  obtain ⟨X5, hX⟩ : ∃ X, X = X4.alloc (.cells #[.int .i64 2, .int .i64 1, .int .i64 0, .int .i64 0, .string ⟨#[]⟩, .int .i64 0, .int .i64 0, .int .i64 0, .string ⟨#[]⟩, .slice none 0 0] 30) := ⟨_, rfl⟩
  have f7 : Fuw X4 X5 := by rw [hX]; exact fuwA _ _
  have b7 : Bk X5 X4.heap.size #[.int .i64 2, .int .i64 1, .int .i64 0, .int .i64 0, .string ⟨#[]⟩, .int .i64 0, .int .i64 0, .int .i64 0, .string ⟨#[]⟩, .slice none 0 0] 30 := by rw [hX]; exact Bk.new _ _ _
  have HI := Lib.hid (al_5 HG5.out f7 b7)
  rw [hX] at HI
  have HF7 := Lib.hid (show Fuw w (X4.alloc (.cells #[.int .i64 2, .int .i64 1, .int .i64 0, .int .i64 0, .string ⟨#[]⟩, .int .i64 0, .int .i64 0, .int .i64 0, .string ⟨#[]⟩, .slice none 0 0] 30)) from by rw [← hX]; exact HF6.out.trans f7)
  have HX7 := Lib.hid (show Fuw X4 (X4.alloc (.cells #[.int .i64 2, .int .i64 1, .int .i64 0, .int .i64 0, .string ⟨#[]⟩, .int .i64 0, .int .i64 0, .int .i64 0, .string ⟨#[]⟩, .slice none 0 0] 30)) from fuwA _ _)
  clear hX f7 b7
  go_wp2_with fail
  go_at_call 17; refine HI.out.mono ?_; rintro e4 w4 ⟨g, k, m1, m2, m3, rfl, hrow, hcs, f8⟩
  have HF8 := Lib.hid (HX7.out.trans f8)
  have HFW := Lib.hid (HF7.out.trans f8)
  have HRW := Lib.hid hrow
  have HCS := Lib.hid hcs
  have HC4 := Lib.hid (HC3.out.on HF8.out)
  have HD4 := Lib.hid (HD3.out.on HF8.out)
  clear HI HX7 HF7 HF6 HC3 HD3 c0 c1 c2 c3 HG5 HQ4 f8 hrow hcs
  go_upto_region 6 with fail
  obtain ⟨S, hS⟩ : ∃ S, S = w4.heap.size := ⟨_, rfl⟩
  obtain ⟨X6, hX⟩ : ∃ X, X = ((w4.alloc (.cells #[.int .i64 1, .slice none 0 0, .slice none 0 0] 56)).alloc (.cells #[.int .i64 1, .int .i64 1, .int .i64 1, .string ⟨#[84]⟩, .slice none 0 0] 58)).alloc (.cells #[.slice (some ⟨S, 0, none⟩) 1 1, .slice (some ⟨S + 1, 0, none⟩) 1 1, .int .i64 2, .int .i64 2] 25) := ⟨_, rfl⟩
  have f6 : Fuw w4 X6 := by rw [hX]; exact ((fuwA _ _).trans (fuwA _ _)).trans (fuwA _ _)
  have q1 : Bk X6 S #[.int .i64 1, .slice none 0 0, .slice none 0 0] 56 := by
    rw [hX]; exact Bk.on (by rw [hS]; exact Bk.new _ _ _) ((fuwA _ _).trans (fuwA _ _))
  have q2 : Bk X6 (S + 1) #[.int .i64 1, .int .i64 1, .int .i64 1, .string ⟨#[84]⟩, .slice none 0 0] 58 := by
    rw [hX]; exact Bk.on (by rw [hS]; have := Bk.new (w4.alloc (.cells #[.int .i64 1, .slice none 0 0, .slice none 0 0] 56)) #[.int .i64 1, .int .i64 1, .int .i64 1, .string ⟨#[84]⟩, .slice none 0 0] 58; simpa using this) (fuwA _ _)
  have q3 : Bk X6 (S + 1 + 1) #[.slice (some ⟨S, 0, none⟩) 1 1, .slice (some ⟨S + 1, 0, none⟩) 1 1, .int .i64 2, .int .i64 2] 25 := by
    rw [hX]
    have := Bk.new ((w4.alloc (.cells #[.int .i64 1, .slice none 0 0, .slice none 0 0] 56)).alloc (.cells #[.int .i64 1, .int .i64 1, .int .i64 1, .string ⟨#[84]⟩, .slice none 0 0] 58)) #[.slice (some ⟨S, 0, none⟩) 1 1, .slice (some ⟨S + 1, 0, none⟩) 1 1, .int .i64 2, .int .i64 2] 25
    rw [show S + 1 + 1 = ((w4.alloc (.cells #[.int .i64 1, .slice none 0 0, .slice none 0 0] 56)).alloc (.cells #[.int .i64 1, .int .i64 1, .int .i64 1, .string ⟨#[84]⟩, .slice none 0 0] 58)).heap.size by simp [hS]]
    exact this
  have HG6 := Lib.hid (alL_in q1 q2)
  have HQ3 := Lib.hid q3
  have HF9 := Lib.hid (HFW.out.trans f6)
  have HFA := Lib.hid (HF8.out.trans f6)
  have HRA := Lib.hid (HRW.out.on f6)
  have HC5 := Lib.hid (HC4.out.on f6)
  have HD5 := Lib.hid (HD4.out.on f6)
  go_upto_region 7 with fail
  rw [← hS, ← hX]
  clear hX hS q1 q2 q3 f6 HF8 HFW HRW HC4 HD4
  have c0 := HQ3.out.c 0; have c1 := HQ3.out.c 1; have c2 := HQ3.out.c 2; have c3 := HQ3.out.c 3
  go_wp2_with fail
  go_at_call 10; refine (H3.out _ _ _ _ _ HG6.out).mono ?_; rintro e5 w5 ⟨a7, a8, k7, k8, rfl, -, f9⟩
  clear c0 c1 c2 c3
  obtain ⟨X8, hX⟩ : ∃ X, X = w5.alloc (.cells #[.slice a7 0 k7, .slice a8 0 k8, .int .i64 zerG.nn, .int .i64 zerG.ne] 25) := ⟨_, rfl⟩
  have f10 : Fuw w5 X8 := by rw [hX]; exact fuwA _ _
  have HFB := Lib.hid (HF9.out.trans (f9.trans f10))
  have HFC := Lib.hid (HFA.out.trans (f9.trans f10))
  have HRB := Lib.hid (HRA.out.on (f9.trans f10))
  have hC := HC5.out.on (f9.trans f10)
  have hD := HD5.out.on (f9.trans f10)
  have HT0 := Lib.hid (fun (w' : World) (hf : Fuw X8 w') => al_y0 (a := m1) (HCS.out.1.on (HFC.out.trans hf)) (HG.out.onw (HFB.out.trans hf)))
  have HT1 := Lib.hid (fun (w' : World) (hf : Fuw X8 w') => al_y1 (a := m2) (HCS.out.2.1.on (HFC.out.trans hf)) (HG.out.onw (HFB.out.trans hf)))
  have HT2 := Lib.hid (fun (w' : World) (hf : Fuw X8 w') => al_y2 (a := m3) (HCS.out.2.2.on (HFC.out.trans hf)) (HG.out.onw (HFB.out.trans hf)))
  have x0 := hC.c 0; have x2 := hC.c 2; have y0 := hD.c 0; have y2 := hD.c 2
  have z0 := HRB.out 0 _ rfl
  have z1 := HRB.out 1 _ rfl
  have z2 := HRB.out 2 _ rfl
  have z3 := HRB.out 3 _ rfl
  have z4 := HRB.out 4 _ rfl
  have z5 := HRB.out 5 _ rfl
  have z6 := HRB.out 6 _ rfl
  have z7 := HRB.out 7 _ rfl
  have z8 := HRB.out 8 _ rfl
  have z9 := HRB.out 9 _ rfl
  clear HF9 HFA HRA HC5 HD5 hC hD f9 HCS HG HG6 HQ3 H0 H1 H2 H3
  go_upto_region 8 with fail
  rw [← hX]
  clear hX f10
  go_wp2_with fail
  go_at_call 22; refine (HT0.out _ (Fuw.refl _)).mono ?_; rintro e6 w6 ⟨rfl, f11⟩
  have HFD := Lib.hid f11
  have u10 := (HRB.out.on f11) 10 _ rfl
  have u11 := (HRB.out.on f11) 11 _ rfl
  have u12 := (HRB.out.on f11) 12 _ rfl
  have u13 := (HRB.out.on f11) 13 _ rfl
  have u14 := (HRB.out.on f11) 14 _ rfl
  have u15 := (HRB.out.on f11) 15 _ rfl
  have u16 := (HRB.out.on f11) 16 _ rfl
  have u17 := (HRB.out.on f11) 17 _ rfl
  have u18 := (HRB.out.on f11) 18 _ rfl
  have u19 := (HRB.out.on f11) 19 _ rfl
  clear f11
  go_wp2_with fail
  go_at_call 22; refine (HT1.out _ HFD.out).mono ?_; rintro e7 w7 ⟨rfl, f12⟩
  have HFE := Lib.hid (HFD.out.trans f12)
  have v20 := (HRB.out.on HFE.out) 20 _ rfl
  have v21 := (HRB.out.on HFE.out) 21 _ rfl
  have v22 := (HRB.out.on HFE.out) 22 _ rfl
  have v23 := (HRB.out.on HFE.out) 23 _ rfl
  have v24 := (HRB.out.on HFE.out) 24 _ rfl
  have v25 := (HRB.out.on HFE.out) 25 _ rfl
  have v26 := (HRB.out.on HFE.out) 26 _ rfl
  have v27 := (HRB.out.on HFE.out) 27 _ rfl
  have v28 := (HRB.out.on HFE.out) 28 _ rfl
  have v29 := (HRB.out.on HFE.out) 29 _ rfl
  clear f12
  go_wp2_with fail
  go_at_call 22; refine (HT2.out _ HFE.out).mono ?_; rintro e8 w8 ⟨rfl, f13⟩
  have HFF := Lib.hid (HFE.out.trans f13)
  clear f13
  go_wp2
  go_ret
  exact ⟨rfl, HFB.out.trans HFF.out⟩
end Go.Proofs.YtfbijdoomkgodaaGreatDoor

/-! The laws of package change: what stays readable of a graph while one box turns; a list of changes told one by one. No program's function is walked here. -/
namespace Go.Proofs.YtfbijdoomkgodaaGreatDoor
open Go.RowKit

/-- The world has grown; of what was there, one block alone may have turned. -/
structure Fux (B : Nat) (w w' : World) : Prop where
  os : w'.os = w.os
  tape : w'.tape = w.tape
  output : w'.output = w.output
  size : w.heap.size ≤ w'.heap.size
  block : ∀ k, k < w.heap.size → k ≠ B → w'.heap[k]? = w.heap[k]?
theorem Fux.of {B : Nat} {a b : World} (h : Fuw a b) : Fux B a b := ⟨h.os, h.tape, h.output, h.size, fun k hk _ => h.block k hk⟩
theorem Fux.trans {B : Nat} {a b c : World} (h : Fux B a b) (k : Fux B b c) : Fux B a c :=
  ⟨k.os.trans h.os, k.tape.trans h.tape, k.output.trans h.output, Nat.le_trans h.size k.size, fun i hi hb => (k.block i (Nat.lt_of_lt_of_le hi h.size) hb).trans (h.block i hi hb)⟩
theorem Fux.set {B : Nat} {a b : World} (h : Fux B a b) (j : Nat) (u : Value) : Fux B a (b.setCell ⟨B, j, none⟩ u) :=
  h.trans ⟨rfl, rfl, rfl, (by simp [World.setCell]), fun k _ hb => Below.heap_setCell b ⟨B, j, none⟩ u k hb⟩
theorem Fux.via {B : Nat} {w a b : World} (h : Fuw w a) (k : Fux B a b) (hB : w.heap.size ≤ B) : Fuw w b :=
  ⟨k.os.trans h.os, k.tape.trans h.tape, k.output.trans h.output, Nat.le_trans h.size k.size, fun i hi => (k.block i (Nat.lt_of_lt_of_le hi h.size) (by omega)).trans (h.block i hi)⟩
/-- A graph can be read, now and whatever happens to that one block. -/
def StG (B : Nat) (wr : World) (g : Gr) (an ae : Option Addr) (cn ce : Nat) : Prop := ∀ w', Fux B wr w' → GIn w' g an ae cn ce
theorem StG.on {B : Nat} {a b : World} {g : Gr} {an ae : Option Addr} {cn ce : Nat} (h : StG B a g an ae cn ce) (f : Fux B a b) : StG B b g an ae cn ce := fun w' f' => h w' (f.trans f')
theorem StG.now {B : Nat} {a : World} {g : Gr} {an ae : Option Addr} {cn ce : Nat} (h : StG B a g an ae cn ce) : GIn a g an ae cn ce := h a (Fux.of (Fuw.refl a))
theorem stg_own {B base : Nat} {w wr : World} {G : Gp} {an ae : Option Addr} {ln le cn ce : Nat} (h : GOwn w wr base G) (hb : B < base) (hB : w.heap.size ≤ B) (e1 : G.vn = .slice an ln cn) (e2 : G.ve = .slice ae le ce) : StG B wr G.gr an ae cn ce := by
  intro w' f
  refine gin_at (w0 := w) (base := base) ?_ e1 e2
  refine ⟨⟨fun r hr => own_heap (h.rows.own r hr) fun g hg => ?_, h.rows.apart⟩, h.no, h.eo, h.i1, h.i2, f.via h.fu hB, h.lo⟩
  have q := h.rows.shut (blks_mem.2 ⟨r, hr, hg⟩)
  exact f.block g q.2 (by omega)
theorem pm_reb {w1 w : World} {pm : List (Pp × AC)} (h : PmOk w1 pm) (hl : ∀ p ∈ pm.map Prod.fst, p.v.ll = []) : PmOk w pm := fun p hp => by
  refine ⟨(h p hp).1, ?_⟩
  have q := (h p hp).2
  have e := hl p.1 (List.mem_map_of_mem hp)
  rw [e] at q ⊢
  exact slv_nil q
/-- A fine graph's values hold no lists, so that what is told of them holds in every world. -/
theorem gown_reb {w1 w2 w : World} {base : Nat} {G : Gp} (h : GOwn w1 w2 base G) (hf : Fine G.gr) (f : Fuw w w2) (hb : w.heap.size ≤ base) : GOwn w w2 base G := by
  refine ⟨h.rows, fun x hx => ?_, fun x hx => ?_, h.i1, h.i2, f, hb⟩
  · have q := h.no x hx
    exact ⟨q.i, q.l, pm_reb q.p fun p hp => pln_ll ((hf.nf x.nd (List.mem_map_of_mem hx)).p.pv p hp)⟩
  · have q := h.eo x hx
    exact ⟨q.i, q.f, q.t, q.y, pm_reb q.p fun p hp => pln_ll ((hf.ef x.ed (List.mem_map_of_mem hx)).p.pv p hp)⟩
theorem RetAp.st {w0 w w' : World} {B : Nat} {g : Gr} {l : List Ch} {e : Ending} (h : RetAp w0 w g l e w') (hB : w0.heap.size ≤ B) (hb : B < w.heap.size) :
    ∃ bn be dn de, e = .returned (.tuple #[grv (appG g l) bn be dn de, .int .i64 ((appE g l).1 : Int), .int .i64 (appE g l).2]) ∧ StG B w' (appG g l) bn be dn de ∧ Fuw w w' := by
  obtain ⟨G, base, rfl, hgr, hown, hbs, hf⟩ := h
  obtain ⟨bn, be, dn, de, e1, e2, -⟩ := hown.gin
  have hl1 : (appG g l).ns.length = G.ns.length := by rw [← hgr]; unfold Gp.gr; simp
  have hl2 : (appG g l).es.length = G.es.length := by rw [← hgr]; unfold Gp.gr; simp
  have hx1 : (appG g l).nn = G.nn := by rw [← hgr]; rfl
  have hx2 : (appG g l).ne = G.ne := by rw [← hgr]; rfl
  have hs := stg_own hown (B := B) (by omega) hB e1 e2
  rw [hgr] at hs
  exact ⟨bn, be, dn, de, by unfold grv; rw [e1, e2, hl1, hl2, hx1, hx2], hs, hf⟩
/-- A graph whose rows lie from lo on: it can be read wherever those blocks are the same. -/
def StH (w : World) (lo : Nat) (w2 : World) (g : Gr) (an ae : Option Addr) (cn ce : Nat) : Prop := ∀ w', Fuw w w' → w2.heap.size ≤ w'.heap.size → (∀ k, lo ≤ k → k < w2.heap.size → w'.heap[k]? = w2.heap[k]?) → GIn w' g an ae cn ce
theorem StH.g {w w2 Y : World} {lo B : Nat} {g : Gr} {an ae : Option Addr} {cn ce : Nat} (h : StH w lo w2 g an ae cn ce) (f : Fuw w Y) (hs : w2.heap.size ≤ Y.heap.size) (hk : ∀ k, lo ≤ k → k < w2.heap.size → Y.heap[k]? = w2.heap[k]?) (hb : B < lo) (hB : w.heap.size ≤ B) : StG B Y g an ae cn ce := fun w' f' =>
  h w' (f'.via f hB) (Nat.le_trans hs f'.size) fun k h1 h2 => (f'.block k (Nat.lt_of_lt_of_le h2 hs) (by omega)).trans (hk k h1 h2)
theorem sth_own {lo base : Nat} {w wr : World} {G : Gp} {an ae : Option Addr} {ln le cn ce : Nat} (h : GOwn w wr base G) (hb : lo ≤ base) (e1 : G.vn = .slice an ln cn) (e2 : G.ve = .slice ae le ce) : StH w lo wr G.gr an ae cn ce := by
  intro w' f hs hk
  refine gin_at (w0 := w) (base := base) ?_ e1 e2
  refine ⟨⟨fun r hr => own_heap (h.rows.own r hr) fun g hg => ?_, h.rows.apart⟩, h.no, h.eo, h.i1, h.i2, f, h.lo⟩
  have q := h.rows.shut (blks_mem.2 ⟨r, hr, hg⟩)
  exact hk g (by omega) q.2
theorem RetA2.st {w0 w w' : World} {g : Gr} {c : Ch} {e : Ending} (h : RetA2 w g c e w') (h0 : Fuw w0 w) :
    ∃ bn be dn de, e = .returned (.tuple #[grv (appG g [c]) bn be dn de, .int .i64 (appE g [c]).2]) ∧ (Fine (appG g [c]) → StH w0 w.heap.size w' (appG g [c]) bn be dn de) ∧ Fuw w w' := by
  obtain ⟨G, base, rfl, hgr, hown, hbs, hf⟩ := h
  obtain ⟨bn, be, dn, de, e1, e2, -⟩ := hown.gin
  have hl1 : (appG g [c]).ns.length = G.ns.length := by rw [← hgr]; unfold Gp.gr; simp
  have hl2 : (appG g [c]).es.length = G.es.length := by rw [← hgr]; unfold Gp.gr; simp
  have hx1 : (appG g [c]).nn = G.nn := by rw [← hgr]; rfl
  have hx2 : (appG g [c]).ne = G.ne := by rw [← hgr]; rfl
  refine ⟨bn, be, dn, de, by unfold grv; rw [e1, e2, hl1, hl2, hx1, hx2], fun hfi => ?_, hf⟩
  rw [← hgr] at hfi
  have hs := sth_own (gown_reb hown hfi (h0.trans hf) (by have := h0.size; omega)) (lo := w.heap.size) (Nat.le_of_lt hbs) e1 e2
  rw [hgr] at hs
  exact hs
end Go.Proofs.YtfbijdoomkgodaaGreatDoor

/-! Plain mathematics: changes that can be made have texts of their own. No program, no world. -/
namespace Go.Proofs.YtfbijdoomkgodaaGreatDoor

def samC (a b : Ch) : Bool := (a.op == b.op) && ((a.id == b.id) && ((a.fr == b.fr) && ((a.tt == b.tt) && ((a.nm == b.nm) && (ordV a.v b.v == 0)))))
theorem samC_self (a : Ch) : samC a a = true := by unfold samC; rw [ord_self]; simp
theorem split_sp : ∀ {u u' r r' : List UInt8}, (32 : UInt8) ∉ u → (32 : UInt8) ∉ u' → u ++ 32 :: r = u' ++ 32 :: r' → u = u' ∧ r = r'
  | [], [], _, _, _, _, h => ⟨rfl, (List.cons.inj h).2⟩
  | [], c :: t, _, _, _, h2, h => by
    have e : (32 : UInt8) = c := (List.cons.inj h).1
    exact absurd (by rw [e]; exact List.mem_cons_self ..) h2
  | c :: t, [], _, _, h1, _, h => by
    have e : c = (32 : UInt8) := (List.cons.inj h).1
    exact absurd (by rw [e]; exact List.mem_cons_self ..) h1
  | c :: t, c' :: t', r, r', h1, h2, h => by
    obtain ⟨e, f⟩ := List.cons.inj h
    obtain ⟨g1, g2⟩ := split_sp (fun m => h1 (List.mem_cons_of_mem _ m)) (fun m => h2 (List.mem_cons_of_mem _ m)) f
    exact ⟨by rw [e, g1], g2⟩
theorem name_sp {s : List UInt8} (h : nameV s = true) : (32 : UInt8) ∉ s := by
  intro hm
  unfold nameV at h
  simp only [Bool.and_eq_true] at h
  have := List.all_eq_true.1 h.2 32 hm
  revert this
  decide
theorem wrd_sp (op : Int) : (32 : UInt8) ∉ wrdC op := by
  unfold wrdC
  repeat' split
  all_goals decide
theorem op_cases {p : Int} (h : opV p = true) : p = 1 ∨ p = 2 ∨ p = 3 ∨ p = 4 ∨ p = 5 ∨ p = 6 ∨ p = 7 ∨ p = 8 := by
  unfold opV at h
  simp only [Bool.and_eq_true, decide_eq_true_eq] at h
  omega
theorem wrd_inj {p q : Int} (hp : opV p = true) (hq : opV q = true) (h : wrdC p = wrdC q) : p = q := by
  rcases op_cases hp with rfl | rfl | rfl | rfl | rfl | rfl | rfl | rfl <;> rcases op_cases hq with rfl | rfl | rfl | rfl | rfl | rfl | rfl | rfl <;> first | rfl | exact absurd h (by decide)
def tlC (c : Ch) : List UInt8 := Lib.joinTail [32] ((if c.op = 6 then [Lib.itoa c.fr, Lib.itoa c.tt] else []) ++ (if nmd c.op = true then [c.nm] else []) ++ (if vld c.op = true then [texX c.v] else []))
theorem words_tex (c : Ch) : Lib.join (wordsC c) [32] = wrdC c.op ++ 32 :: (Lib.itoa c.id ++ tlC c) := by
  unfold wordsC tlC
  simp only [List.cons_append, List.nil_append]
  rw [Lib.join_cons]
  unfold Lib.joinTail
  simp
theorem ok_v {v : Vl} (h : isN v = true ∨ plnV v = true) : okX v = true := by
  rcases h with h | h
  · have e : v = nulV := ord_eq (by unfold isN at h; simpa using h)
    subst e; decide
  · unfold plnV at h
    rw [Bool.and_eq_true] at h
    exact h.1
theorem nul_v {v : Vl} (h : isN v = true) : v = nulV := ord_eq (by unfold isN at h; simpa using h)
theorem id_rng {x : Int} (h : idV x = true) : -1000000000000000 ≤ x ∧ x ≤ 1000000000000000 := by
  unfold idV at h
  simp only [Bool.and_eq_true, decide_eq_true_eq] at h
  omega
theorem tl_del (c : Ch) : Del (tlC c) := by
  unfold tlC Lib.joinTail
  split
  · exact del_c (by decide)
  · split
    · exact del_c (by decide)
    · split
      · exact del_c (by decide)
      · exact del_nil
theorem itoa_next {n n' : Int} (h : idV n = true) (h' : idV n' = true) {r r' : List UInt8} (hd : Del r) (hd' : Del r') (e : Lib.itoa n ++ r = Lib.itoa n' ++ r') : n = n' ∧ r = r' :=
  itoa_same (id_rng h).1 (id_rng h).2 (id_rng h').1 (id_rng h').2 (fun _ => numF_del hd) (fun _ => numF_del hd') e
/-- The same text, the same change. -/
theorem texC_inj {a b : Ch} (ha : chkC a = 0) (hb : chkC b = 0) (h : Lib.join (wordsC a) [32] = Lib.join (wordsC b) [32]) : a = b := by
  obtain ⟨a1, a2, a3, a4, a5⟩ := chkC_ok ha
  obtain ⟨b1, b2, b3, b4, b5⟩ := chkC_ok hb
  rw [words_tex, words_tex] at h
  obtain ⟨e1, h1⟩ := split_sp (wrd_sp _) (wrd_sp _) h
  have eo := wrd_inj a1 b1 e1
  have ia : idV a.id = true := by unfold idsC at a2; rw [Bool.and_eq_true] at a2; exact a2.1
  have ib : idV b.id = true := by unfold idsC at b2; rw [Bool.and_eq_true] at b2; exact b2.1
  obtain ⟨e2, h2⟩ := itoa_next ia ib (tl_del a) (tl_del b) h1
  clear h h1
  obtain ⟨op, id, fr, tt, nm, v⟩ := a
  obtain ⟨op', id', fr', tt', nm', v'⟩ := b
  simp only at *
  subst eo e2
  clear e1 ha hb ia ib b1
  unfold tlC at h2
  unfold zeroC at a3 b3
  unfold idsC at a2 b2
  rcases op_cases a1 with rfl | rfl | rfl | rfl | rfl | rfl | rfl | rfl
  all_goals simp [nmd, vld, Lib.joinTail] at a2 a3 a4 b2 b3 b4 h2
  · obtain ⟨⟨⟨rfl, rfl⟩, rfl⟩, av⟩ := a3
    obtain ⟨⟨⟨rfl, rfl⟩, rfl⟩, bv⟩ := b3
    rw [nul_v av, nul_v bv]
  · obtain ⟨⟨⟨rfl, rfl⟩, rfl⟩, av⟩ := a3
    obtain ⟨⟨⟨rfl, rfl⟩, rfl⟩, bv⟩ := b3
    rw [nul_v av, nul_v bv]
  · obtain ⟨⟨rfl, rfl⟩, av⟩ := a3
    obtain ⟨⟨rfl, rfl⟩, bv⟩ := b3
    rw [nul_v av, nul_v bv, h2]
  · obtain ⟨⟨rfl, rfl⟩, av⟩ := a3
    obtain ⟨⟨rfl, rfl⟩, bv⟩ := b3
    rw [nul_v av, nul_v bv, h2]
  · obtain ⟨rfl, rfl⟩ := a3
    obtain ⟨rfl, rfl⟩ := b3
    obtain ⟨e3, e4⟩ := split_sp (name_sp a4) (name_sp b4) h2
    rw [e3, tex_inj (ok_v a5) (ok_v b5) e4]
  · obtain ⟨-, f1, f2⟩ := a2
    obtain ⟨-, g1, g2⟩ := b2
    obtain ⟨e3, h3⟩ := itoa_next f1 g1 (del_c (.inr (.inl rfl))) (del_c (.inr (.inl rfl))) h2
    obtain ⟨e4, h4⟩ := itoa_next f2 g2 (del_c (.inr (.inl rfl))) (del_c (.inr (.inl rfl))) (List.cons.inj h3).2
    rw [nul_v a3, nul_v b3, e3, e4, (List.cons.inj h4).2]
  · obtain ⟨⟨⟨rfl, rfl⟩, rfl⟩, av⟩ := a3
    obtain ⟨⟨⟨rfl, rfl⟩, rfl⟩, bv⟩ := b3
    rw [nul_v av, nul_v bv]
  · obtain ⟨rfl, rfl⟩ := a3
    obtain ⟨rfl, rfl⟩ := b3
    obtain ⟨e3, e4⟩ := split_sp (name_sp a4) (name_sp b4) h2
    rw [e3, tex_inj (ok_v a5) (ok_v b5) e4]
/-- ChangeTexts' mathematics. -/
theorem texts_maths {a b : Ch} (h1 : texC a ≠ []) (h2 : texC a = texC b) : samC a b = true := by
  have ha : chkC a = 0 := by
    by_cases q : chkC a = 0
    · exact q
    · exact absurd (by unfold texC; rw [if_neg q]) h1
  have hb : chkC b = 0 := by
    by_cases q : chkC b = 0
    · exact q
    · exact absurd (by rw [h2]; unfold texC; rw [if_neg q]) h1
  unfold texC at h2
  rw [if_pos ha, if_pos hb] at h2
  rw [texC_inj ha hb h2]
  exact samC_self b
end Go.Proofs.YtfbijdoomkgodaaGreatDoor
