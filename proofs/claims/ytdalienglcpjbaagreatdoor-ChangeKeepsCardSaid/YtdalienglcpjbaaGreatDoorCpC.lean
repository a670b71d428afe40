/-
  The reference of package graph: a graph in new memory. Nothing that was there turns.
-/
import Derived.Test.YtdalienglcpjbaaGreatDoorCpB
import Derived.Test.YtdalienglcpjbaaGreatDoorK16
import Derived.Test.YtdalienglcpjbaaGreatDoorM30
namespace Go.Proofs.YtdalienglcpjbaaGreatDoor
open Go.RowKit

/-- A graph copied: its nodes lie in blocks from s1 on, its edges behind them. -/
def RetGc (w : World) (g : Gr) (e : Ending) (w' : World) : Prop := ∃ (s1 : Nat) (an ae : Option Addr) (cn ce : Nat) (w1 : World), e = .returned (grv g an ae cn ce) ∧ w.heap.size ≤ s1 ∧ s1 ≤ w1.heap.size ∧ OwnN s1 g.ns (.slice an g.ns.length cn) w1 ∧ w1.heap.size ≤ w'.heap.size ∧ (∀ b, s1 ≤ b → b < w1.heap.size → w'.heap[b]? = w1.heap[b]?) ∧
  OwnL LE 59 w1.heap.size g.es (.slice ae g.es.length ce) w' ∧ Fuw w w'
theorem infoN : (Tryz.prog.info? 57).map (fun i => (i.zero, i.size, i.bytes)) = some (some (.agg #[.int .i64 0, .slice none 0 0, .slice none 0 0]), 3, 56) := by kernel_rfl
theorem infoE : (Tryz.prog.info? 59).map (fun i => (i.zero, i.size, i.bytes)) = some (some (.agg #[.int .i64 0, .int .i64 0, .int .i64 0, .string ⟨#[]⟩, .slice none 0 0]), 5, 64) := by kernel_rfl
theorem one_N (n : Nd) (m : NMe) : ∀ u ∈ LNi.C n m, u.oneCell' = true := by
  intro u hu
  unfold LNi at hu
  simp only [List.mem_cons, List.not_mem_nil, or_false] at hu
  rcases hu with rfl | rfl | rfl <;> rfl
theorem one_E (n : Ed) (m : AC) : ∀ u ∈ LE.C n m, u.oneCell' = true := by
  intro u hu
  unfold LE at hu
  simp only [List.mem_cons, List.not_mem_nil, or_false] at hu
  rcases hu with rfl | rfl | rfl | rfl | rfl <;> rfl
/-- What a slot holds once it is written, by the slot's class. -/
def GcU (n : Nd) (ov : Value) (B3 Bn : Nat) (al ap : Option Addr) (cl cp s s1 : Nat) (l : List Nd) : Nat → World → Value → Prop
  | 1, _, v => v = .pointer (some ⟨B3, 0, none⟩)
  | 2, _, v => v = ov
  | 3, _, v => v = .pointer (some ⟨Bn, 0, none⟩)
  | 4, _, v => v = .int .i64 n.id
  | 5, w, v => ∃ B, v = .slice (some ⟨B, 0, none⟩) 0 0 ∧ s ≤ B ∧ Bk w B #[] 9
  | 6, _, v => v = .pointer (some ⟨Bn, 1, none⟩)
  | 7, _, v => v = .slice al n.ls.length cl
  | 8, w, v => ∃ a k, v = .slice a n.ls.length k ∧ Kb s none w (fun w2 => SlS w2 a n.ls k ∧ w2.ownsRow s 9 1 (.slice a n.ls.length k) n.ls.length (sC n.ls))
  | 9, _, v => v = .pointer (some ⟨Bn, 2, none⟩)
  | 10, _, v => v = .slice ap n.ps.length cp
  | 11, w, v => ∃ a k, v = .slice a n.ps.length k ∧ Kb s none w (fun w2 => SlP w2 a n.ps k)
  | 12, w, v => ∃ a k a' k', v = .agg #[.int .i64 n.id, .slice a n.ls.length k, .slice a' n.ps.length k'] ∧ Kb s none w (NodeIn n ((a, k), (a', k')) s)
  | 13, w, v => ∃ B a k a' k', v = .slice (some ⟨B, 0, none⟩) 1 1 ∧ Bk w B #[.int .i64 n.id, .slice a n.ls.length k, .slice a' n.ps.length k'] 57 ∧ Kb s none w (NodeIn n ((a, k), (a', k')) s)
  | 14, w, v => OwnN s1 l v w
  | _, _, _ => True
def kGcF : List Nat := [0, 0, 0, 0, 0, 0, 0, 0, 0, 0, 0, 0, 0, 0, 0, 0, 0, 0, 0, 0, 0, 0, 0, 0, 0, 1, 2, 3, 4, 5, 6, 7, 8, 9, 10, 11, 12, 13, 0, 1, 0, 0, 0, 0, 0, 0, 0, 0, 0, 0, 0, 0, 0, 0, 0, 0, 0, 0, 0, 0, 0, 0, 0]
def kGcT : List Nat := [0, 0, 0, 0, 0, 0, 0, 0, 0, 0, 0, 0, 0, 0, 0, 0, 0, 0, 0, 0, 0, 0, 0, 0, 0, 0, 0, 0, 0, 0, 0, 0, 0, 0, 0, 0, 0, 0, 14, 1, 0, 0, 0, 0, 0, 0, 0, 0, 0, 0, 0, 0, 0, 0, 0, 0, 0, 0, 0, 0, 0, 0, 0]
def kGcD : List Nat := [0, 0, 0, 0, 0, 0, 0, 0, 0, 0, 0, 0, 0, 0, 0, 0, 0, 0, 0, 0, 0, 0, 0, 0, 0, 0, 0, 0, 0, 0, 0, 0, 0, 0, 0, 0, 0, 0, 0, 0, 0, 0, 0, 0, 0, 0, 0, 0, 0, 0, 0, 0, 0, 0, 0, 0, 0, 0, 0, 0, 0, 0, 0]
def kGc (b b' : Bool) (t : Nat) : Nat := (match b, b' with | false, _ => kGcF | true, false => kGcT | true, true => kGcD).getD t 0
def SGc (w W : World) (B1 B2 B3 : Nat) (c1 c2 : Array Value) (ov x y : Value) (s1 : Nat) (l : List Nd) (b b' : Bool) (w' : World) : Prop := match b, b' with
  | false, _ => Fuw W w'
  | true, false => Fuw w w' ∧ Bk w' B1 c1 25 ∧ Bk w' B2 c2 25 ∧ Bk w' B3 #[ov, .slice none 0 0, x, y] 25
  | true, true => Fuw w w' ∧ Bk w' B1 c1 25 ∧ Bk w' B2 c2 25 ∧ ∃ v, Bk w' B3 #[v, .slice none 0 0, x, y] 25 ∧ OwnN s1 l v w'
theorem gcu_on {n : Nd} {ov : Value} {B3 Bn : Nat} {al ap : Option Addr} {cl cp s s1 : Nat} {l : List Nd} {w w' : World} (hf : Fuw w w') :
    ∀ (k : Nat) (u : Value), GcU n ov B3 Bn al ap cl cp s s1 l k w u → GcU n ov B3 Bn al ap cl cp s s1 l k w' u := by
  intro k u h
  match k, h with
  | 0, h => exact h
  | 1, h => exact h
  | 2, h => exact h
  | 3, h => exact h
  | 4, h => exact h
  | 5, ⟨B, h1, h2, h3⟩ => exact ⟨B, h1, h2, h3.on hf⟩
  | 6, h => exact h
  | 7, h => exact h
  | 8, ⟨a, k, h1, h2⟩ => exact ⟨a, k, h1, h2.later hf⟩
  | 9, h => exact h
  | 10, h => exact h
  | 11, ⟨a, k, h1, h2⟩ => exact ⟨a, k, h1, h2.later hf⟩
  | 12, ⟨a, k, a', k', h1, h2⟩ => exact ⟨a, k, a', k', h1, h2.later hf⟩
  | 13, ⟨B, a, k, a', k', h1, h2, h3⟩ => exact ⟨B, a, k, a', k', h1, h2.on hf, h3.later hf⟩
  | 14, ⟨qs, h1, h2⟩ => exact ⟨qs, h1, ownns_on h2 hf⟩
  | _ + 15, h => exact h
theorem frameD63 (x : Nat → Value) : frameD 63 x = ⟨#[x 0, x 1, x 2, x 3, x 4, x 5, x 6, x 7, x 8, x 9, x 10, x 11, x 12, x 13, x 14, x 15, x 16, x 17, x 18, x 19, x 20, x 21, x 22, x 23, x 24, x 25, x 26, x 27, x 28, x 29, x 30, x 31, x 32, x 33, x 34, x 35, x 36, x 37, x 38, x 39, x 40, x 41, x 42, x 43, x 44, x 45, x 46, x 47, x 48, x 49, x 50, x 51, x 52, x 53, x 54, x 55, x 56, x 57, x 58, x 59, x 60, x 61, x 62], []⟩ := rfl
theorem dead_d (t : Nat) : kGc true true t = 0 := by
  unfold kGc
  rcases Nat.lt_or_ge t 63 with k | k
  · have q : ∀ t, t < 63 → kGcD.getD t 0 = 0 := by decide
    exact q t k
  · show kGcD.getD t 0 = 0
    rw [List.getD_eq_getElem?_getD, List.getElem?_eq_none (by show kGcD.length ≤ t; exact k)]; rfl
theorem dead39 {ops : Array Oper} {t : Nat} (h : livB ops 13 t = true) (hk : ((List.range 63).all fun t => !livB ops 13 t || (t == 39) || kGcT.getD t 0 == 0) = true) : t = 39 ∨ kGcT.getD t 0 = 0 := by
  rcases Nat.lt_or_ge t 63 with k | k
  · have q := List.all_eq_true.1 hk t (List.mem_range.2 k)
    rw [h] at q
    rcases Bool.or_eq_true_iff.1 q with e | e
    · exact .inl (by simpa using e)
    · exact .inr (by simpa using e)
  · refine .inr ?_
    rw [List.getD_eq_getElem?_getD, List.getElem?_eq_none (by show kGcT.length ≤ t; exact k)]; rfl
set_option maxHeartbeats 12800000 in
set_option maxRecDepth 100000 in
theorem rcopy_any (g : Gr) (an ae : Option Addr) (cn ce : Nat) (w : World) (hg : GIn w g an ae cn ce) (hm : ModG g) :
    Calls Tryz.prog 16 #[grv g an ae cn ce] w (RetGc w g) := by
  have hln := hg.n.len
  have hle := hg.e.len
  have HM := Lib.hid hm
  obtain ⟨iS, hiS, hS0, hS1, hS2⟩ := info_parts infoS
  obtain ⟨iN, hiN, hN0, hN1, hN2⟩ := info_parts infoN
  obtain ⟨iE, hiE, hE0, hE1, hE2⟩ := info_parts infoE
  have HIN := Lib.hid (hg.n.ins (I := LN.I) (fun _ _ _ h => NC_in h))
  have HIE := Lib.hid (hg.e.ins (I := LE.I) (fun _ _ _ h => EC_in h))
  have HGI := Lib.hid hg
  have hnn : g.ns.length ≤ 1000000 := hm.n
  have hee : g.es.length ≤ 1000000 := hm.e
  clear hg hm
  unfold grv
  go_enter Tryz.func16, Tryz.ntmps16
  go_upto_region 2 with fail
  obtain ⟨w0, hw0⟩ : ∃ w0, w0 = ((w.alloc (.cells #[.slice an g.ns.length cn, .slice ae g.es.length ce, .int .i64 g.nn, .int .i64 g.ne] 25)).alloc (.cells #[.slice none 0 0, .slice none 0 0, .int .i64 0, .int .i64 0] 25)).alloc (.cells #[.slice none 0 0, .slice none 0 0, .int .i64 g.nn, .int .i64 g.ne] 25) := ⟨_, rfl⟩
  have P1 := Lib.hid (show Bk w0 w.heap.size #[.slice an g.ns.length cn, .slice ae g.es.length ce, .int .i64 g.nn, .int .i64 g.ne] 25 from by rw [hw0]; exact ((Bk.new w _ _).on (fuwA _ _)).on (fuwA _ _))
  have P2 := Lib.hid (show Bk w0 (w.heap.size + 1) #[.slice none 0 0, .slice none 0 0, .int .i64 0, .int .i64 0] 25 from by rw [hw0]; exact (bk2 _ _ _ _).on (fuwA _ _))
  have P3 := Lib.hid (show Bk w0 (w.heap.size + 1 + 1) #[.slice none 0 0, .slice none 0 0, .int .i64 g.nn, .int .i64 g.ne] 25 from by
    rw [hw0]
    have k := Bk.new ((w.alloc (.cells #[.slice an g.ns.length cn, .slice ae g.es.length ce, .int .i64 g.nn, .int .i64 g.ne] 25)).alloc (.cells #[.slice none 0 0, .slice none 0 0, .int .i64 0, .int .i64 0] 25)) #[.slice none 0 0, .slice none 0 0, .int .i64 g.nn, .int .i64 g.ne] 25
    simpa using k)
  have F0 := Lib.hid (show Fuw w w0 from by rw [hw0]; exact ((fuwA _ _).trans (fuwA _ _)).trans (fuwA _ _))
  have HZ0 := Lib.hid (show w0.heap.size = w.heap.size + 3 from by rw [hw0]; simp)
  rw [← hw0]
  clear hw0
  obtain ⟨s1, hs1⟩ : ∃ s1, s1 = w0.heap.size := ⟨_, rfl⟩
  have HS1 := Lib.hid hs1
  have hsz : w.heap.size + 1 + 1 < s1 := by have := HZ0.out; omega
  clear hs1
  go_wp2
  go_loopw [4] (fun iv wr => ∃ (i : Nat) (ov : Value), iv = .int .i64 i ∧ i ≤ g.ns.length ∧ Hid (Bk wr w.heap.size #[.slice an g.ns.length cn, .slice ae g.es.length ce, .int .i64 g.nn, .int .i64 g.ne] 25) ∧ Hid (Bk wr (w.heap.size + 1) #[.slice none 0 0, .slice none 0 0, .int .i64 0, .int .i64 0] 25) ∧ Hid (Bk wr (w.heap.size + 1 + 1) #[ov, .slice none 0 0, .int .i64 g.nn, .int .i64 g.ne] 25) ∧ Hid (OwnN s1 (g.ns.take i) ov wr) ∧ Hid (Fuw w wr) ∧ Hid (s1 ≤ wr.heap.size)) (fun iv _ => g.ns.length - (RowKit.intOf iv).toNat)
  case atStart => exact ⟨0, .slice none 0 0, rfl, Nat.zero_le _, P1, P2, P3, ⟨[], rfl, World.ownsRow_nil _ _ _ _, LNi.Ns_nil _, List.Pairwise.nil, fun _ h => by cases h⟩, F0, Nat.le_of_eq HS1.out⟩
  case round =>
    obtain ⟨i, ov, rfl, hii, p1, p2, p3, ho, hf, hss⟩ := hrel
    have q0 : wr.cell? ⟨w.heap.size, 0, none⟩ = some (.slice an g.ns.length cn) := p1.out.c 0
    have q1 : wr.cell? ⟨w.heap.size, 1, none⟩ = some (.slice ae g.es.length ce) := p1.out.c 1
    by_cases hlt : i < g.ns.length
    · obtain ⟨b, o, rfl, hid, c0, ⟨al, cl, c1, hsl⟩, ap, cp, c2, hsp⟩ := (HGI.out.on hf.out).n.get hlt
      obtain ⟨ps, hT, hNs⟩ := ho.out
      have hps : ps.length = i := by
        have := congrArg List.length hT
        rw [List.length_take, List.length_map] at this
        omega
      have HTT := Lib.hid (fun m => take_fsts hT hlt m)
      obtain ⟨hml, hmp, hmv⟩ := HM.out.nl _ (List.getElem_mem hlt)
      obtain ⟨n, hn⟩ : ∃ n, n = g.ns[i] := ⟨_, rfl⟩
      obtain ⟨L1, hL1⟩ : ∃ L1, L1 = g.ns.take (i + 1) := ⟨_, rfl⟩
      rw [← hL1, ← hn] at HTT
      rw [← hn] at c0 c1 c2 hsl hsp hml hmp hmv hid
      have HL1 := Lib.hid hL1
      have HI1 := Lib.hid (show ∀ x ∈ L1, LN.I x from fun x hx => HIN.out x (List.mem_of_mem_take (by rw [hL1] at hx; exact hx)))
      have hpl : ps.length ≤ 1000000 := by omega
      have HV := Lib.hid hmv
      clear hT hps hn hL1 hmv hid ho
      go_upto_region 6 with fail
      obtain ⟨W, hW⟩ : ∃ W, W = wr.alloc (.cells #[.int .i64 n.id, .slice al n.ls.length cl, .slice ap n.ps.length cp] 57) := ⟨_, rfl⟩
      have fW : Fuw wr W := by rw [hW]; exact fuwA _ _
      have BW := Lib.hid (show Bk W wr.heap.size #[.int .i64 n.id, .slice al n.ls.length cl, .slice ap n.ps.length cp] 57 from by rw [hW]; exact Bk.new _ _ _)
      rw [← hW]
      have HSL := Lib.hid (slS_on fW hsl)
      have HSP := Lib.hid (fun w' (h : Fuw W w') => rprops_any n.ps ap cp w' (slP_on (fW.trans h) hsp) hmp HV.out)
      have HO := Lib.hid (ownns_on hNs fW)
      have HPS := Lib.hid (show ∀ p ∈ ps, p.2.2.2 ≤ W.heap.size from fun p hp => Nat.le_trans (hNs.rng p hp).2.1 fW.size)
      have HF := Lib.hid (hf.out.trans fW)
      have R1 := Lib.hid (p1.out.on fW)
      have R2 := Lib.hid (p2.out.on fW)
      have R3 := Lib.hid (p3.out.on fW)
      have HSW := Lib.hid (Nat.le_trans hss.out fW.size)
      have HNM := Lib.hid (show ∀ s ∈ n.ls, s.length ≤ maxLen from fun s h => by
        obtain ⟨j, hj, rfl⟩ := List.getElem_of_mem h
        obtain ⟨_, _, _, hz, _⟩ := hsl.get hj
        exact hz)
      have HOB := Lib.hid (show ∀ k, ov.ownBlock = some k → s1 ≤ k ∧ k < W.heap.size from HO.out.own.lt)
      clear hW fW hsl hsp hNs p1 p2 p3 q0 q1 c0 c1 c2 hss
      refine region_midB (N := 63) (S := fun σ => SGc w W w.heap.size (w.heap.size + 1) (w.heap.size + 1 + 1) #[.slice (some ⟨b, o, none⟩) g.ns.length cn, .slice ae g.es.length ce, .int .i64 g.nn, .int .i64 g.ne] #[.slice none 0 0, .slice none 0 0, .int .i64 0, .int .i64 0] ov (.int .i64 g.nn) (.int .i64 g.ne) s1 L1 (σ 13) (σ 15)) (U := fun σ t => GcU n ov (w.heap.size + 1 + 1) wr.heap.size al ap cl cp W.heap.size s1 L1 (kGc (σ 13) (σ 15) t)) (V := fun _ _ => True) (by kernel_rfl) (by kernel_rfl) (by kernel_rfl) ?base (fun H1 => upto_succ (n := 15) (upto_succ (n := 14) (upto_succ (n := 13) (upto_succ (n := 12) (upto_succ (n := 11) (upto_succ (n := 10) (upto_succ (n := 9) (upto_succ (n := 8) (upto_succ (n := 7) (upto_succ (n := 6) (upto_succ (n := 5) (upto_succ (n := 4) (upto_succ (n := 3) (upto_succ (n := 2) (upto_succ (n := 1) (upto_succ (n := 0) (upto_nil) ?s0) ?s1) ?s2) ?s3) ?s4) ?s5) ?s6) ?s7) ?s8) ?s9) ?s10) ?s11) ?s12) ?s13) ?s14) ?s15) ?fin
      case s0 =>
        refine stepB_of [13, 15] [] [] [] H1 rfl rfl (by kernel_rfl) (by kernel_rfl) (by kernel_rfl) (by kernel_rfl) ?_
        intro σ hp hq x w5 hS hU hV hA Lv hLv K hK
        have m13 : σ 13 = false := hp 13 (by simp)
        have m15 : σ 15 = false := hp 15 (by simp)
        simp only [m13, upB_ne (show (0 : Nat) ≠ 13 by decide), m15, upB_ne (show (0 : Nat) ≠ 15 by decide)] at hS hU hK
        clear hp hq m13 m15
        have u3 : x 3 = .pointer (some ⟨w.heap.size + 1 + 1, 0, none⟩) := hA 3 (by kernel_rfl)
        clear hU hV hA H1 hLv
        rw [frameD63] at hK ⊢
        simp only [u3] at hK ⊢
        refine wpOp_step rfl (fun K' hK' => ?_)
        go_simp
        exact hK' _ _ (hK _ _ hS (fun _ _ _ h => h) (fun e he => by cases he; exact rfl))
      case s1 =>
        refine stepB_of [13, 15] [] [25] [] H1 rfl rfl (by kernel_rfl) (by kernel_rfl) (by kernel_rfl) (by kernel_rfl) ?_
        intro σ hp hq x w5 hS hU hV hA Lv hLv K hK
        have m13 : σ 13 = false := hp 13 (by simp)
        have m15 : σ 15 = false := hp 15 (by simp)
        simp only [m13, upB_ne (show (1 : Nat) ≠ 13 by decide), m15, upB_ne (show (1 : Nat) ≠ 15 by decide)] at hS hU hK
        clear hp hq m13 m15
        have u25 : x 25 = .pointer (some ⟨w.heap.size + 1 + 1, 0, none⟩) := hU 25 (by simp)
        clear hU hV hA H1 hLv
        rw [frameD63] at hK ⊢
        simp only [u25] at hK ⊢
        refine wpOp_step rfl (fun K' hK' => ?_)
        have hf5 : Fuw W w5 := hS
        have q0 := (R3.out.on hf5).c 0
        go_simp
        exact hK' _ _ (hK _ _ hS (fun _ _ _ h => h) (fun e he => by cases he; exact rfl))
      case s2 =>
        refine stepB_of [13, 15] [] [] [] H1 rfl rfl (by kernel_rfl) (by kernel_rfl) (by kernel_rfl) (by kernel_rfl) ?_
        intro σ hp hq x w5 hS hU hV hA Lv hLv K hK
        have m13 : σ 13 = false := hp 13 (by simp)
        have m15 : σ 15 = false := hp 15 (by simp)
        simp only [m13, upB_ne (show (2 : Nat) ≠ 13 by decide), m15, upB_ne (show (2 : Nat) ≠ 15 by decide)] at hS hU hK
        clear hp hq m13 m15
        have u5 : x 5 = .pointer (some ⟨wr.heap.size, 0, none⟩) := hA 5 (by kernel_rfl)
        clear hU hV hA H1 hLv
        rw [frameD63] at hK ⊢
        simp only [u5] at hK ⊢
        refine wpOp_step rfl (fun K' hK' => ?_)
        go_simp
        exact hK' _ _ (hK _ _ hS (fun _ _ _ h => h) (fun e he => by cases he; exact rfl))
      case s3 =>
        refine stepB_of [13, 15] [] [27] [] H1 rfl rfl (by kernel_rfl) (by kernel_rfl) (by kernel_rfl) (by kernel_rfl) ?_
        intro σ hp hq x w5 hS hU hV hA Lv hLv K hK
        have m13 : σ 13 = false := hp 13 (by simp)
        have m15 : σ 15 = false := hp 15 (by simp)
        simp only [m13, upB_ne (show (3 : Nat) ≠ 13 by decide), m15, upB_ne (show (3 : Nat) ≠ 15 by decide)] at hS hU hK
        clear hp hq m13 m15
        have u27 : x 27 = .pointer (some ⟨wr.heap.size, 0, none⟩) := hU 27 (by simp)
        clear hU hV hA H1 hLv
        rw [frameD63] at hK ⊢
        simp only [u27] at hK ⊢
        refine wpOp_step rfl (fun K' hK' => ?_)
        have hf5 : Fuw W w5 := hS
        have q0 := (BW.out.on hf5).c 0
        go_simp
        exact hK' _ _ (hK _ _ hS (fun _ _ _ h => h) (fun e he => by cases he; exact rfl))
      case s4 =>
        refine stepB_of [13, 15] [] [] [] H1 rfl rfl (by kernel_rfl) (by kernel_rfl) (by kernel_rfl) (by kernel_rfl) ?_
        intro σ hp hq x w5 hS hU hV hA Lv hLv K hK
        have m13 : σ 13 = false := hp 13 (by simp)
        have m15 : σ 15 = false := hp 15 (by simp)
        simp only [m13, upB_ne (show (4 : Nat) ≠ 13 by decide), m15, upB_ne (show (4 : Nat) ≠ 15 by decide)] at hS hU hK
        clear hp hq m13 m15
        clear hU hV hA H1 hLv
        rw [frameD63] at hK ⊢
        refine wpOp_step rfl (fun K' hK' => ?_)
        have hf5 : Fuw W w5 := hS
        go_simp
        exact hK' _ _ (hK _ _ (show Fuw W _ from hf5.alloc _) (fun _ _ _ h => gcu_on (fuwA _ _) _ _ h) (fun e he => by cases he; exact ⟨_, rfl, hf5.size, Bk.new _ _ _⟩))
      case s5 =>
        refine stepB_of [13, 15] [] [] [] H1 rfl rfl (by kernel_rfl) (by kernel_rfl) (by kernel_rfl) (by kernel_rfl) ?_
        intro σ hp hq x w5 hS hU hV hA Lv hLv K hK
        have m13 : σ 13 = false := hp 13 (by simp)
        have m15 : σ 15 = false := hp 15 (by simp)
        simp only [m13, upB_ne (show (5 : Nat) ≠ 13 by decide), m15, upB_ne (show (5 : Nat) ≠ 15 by decide)] at hS hU hK
        clear hp hq m13 m15
        have u5 : x 5 = .pointer (some ⟨wr.heap.size, 0, none⟩) := hA 5 (by kernel_rfl)
        clear hU hV hA H1 hLv
        rw [frameD63] at hK ⊢
        simp only [u5] at hK ⊢
        refine wpOp_step rfl (fun K' hK' => ?_)
        go_simp
        exact hK' _ _ (hK _ _ hS (fun _ _ _ h => h) (fun e he => by cases he; exact rfl))
      case s6 =>
        refine stepB_of [13, 15] [] [30] [] H1 rfl rfl (by kernel_rfl) (by kernel_rfl) (by kernel_rfl) (by kernel_rfl) ?_
        intro σ hp hq x w5 hS hU hV hA Lv hLv K hK
        have m13 : σ 13 = false := hp 13 (by simp)
        have m15 : σ 15 = false := hp 15 (by simp)
        simp only [m13, upB_ne (show (6 : Nat) ≠ 13 by decide), m15, upB_ne (show (6 : Nat) ≠ 15 by decide)] at hS hU hK
        clear hp hq m13 m15
        have u30 : x 30 = .pointer (some ⟨wr.heap.size, 1, none⟩) := hU 30 (by simp)
        clear hU hV hA H1 hLv
        rw [frameD63] at hK ⊢
        simp only [u30] at hK ⊢
        refine wpOp_step rfl (fun K' hK' => ?_)
        have hf5 : Fuw W w5 := hS
        have q0 := (BW.out.on hf5).c 1
        go_simp
        exact hK' _ _ (hK _ _ hS (fun _ _ _ h => h) (fun e he => by cases he; exact rfl))
      case s7 =>
        refine stepB_of [13, 15] [] [29, 31] [] H1 rfl rfl (by kernel_rfl) (by kernel_rfl) (by kernel_rfl) (by kernel_rfl) ?_
        intro σ hp hq x w5 hS hU hV hA Lv hLv K hK
        have m13 : σ 13 = false := hp 13 (by simp)
        have m15 : σ 15 = false := hp 15 (by simp)
        simp only [m13, upB_ne (show (7 : Nat) ≠ 13 by decide), m15, upB_ne (show (7 : Nat) ≠ 15 by decide)] at hS hU hK
        clear hp hq m13 m15
        obtain ⟨B, u29, hsB, hB⟩ : ∃ B, x 29 = .slice (some ⟨B, 0, none⟩) 0 0 ∧ W.heap.size ≤ B ∧ Bk w5 B #[] 9 := hU 29 (by simp)
        have u31 : x 31 = .slice al n.ls.length cl := hU 31 (by simp)
        clear hU hV hA H1
        rw [frameD63] at hK ⊢
        simp only [u29, u31] at hK ⊢
        have hf5 : Fuw W w5 := hS
        rcases al with _ | ad
        · have z1 : cl = 0 := HSL.out.nil rfl
          have z2 : n.ls = [] := List.eq_nil_of_length_eq_zero (by have := HSL.out.le; omega)
          have z3 : Value.slice none n.ls.length cl = .slice none 0 0 := by rw [z1, z2]; rfl
          refine wpOp_append_none w5 rfl rfl (.tmp 29) (.tmp 31) 52 rfl W.heap.size 9 iS 1 Tryz.underlying52 hiS _ 0 [] rfl ⟨by simp, .inr ⟨B, 0, #[], rfl, hsB, hB, Nat.le_refl _, Nat.zero_le _, by simp, by simp⟩⟩ z3 ?_
          exact hK _ _ hS (fun _ _ _ h => h) (fun e he => by cases he; exact ⟨some ⟨B, 0, none⟩, 0, by rw [z2]; rfl, by rw [z2]; exact fun w2 h2 => ⟨slS_nil _ _ _ _ (Nat.zero_le _), ⟨by simp [sC], .inr ⟨B, 0, #[], rfl, hsB, (h2 B hsB hB.lt (by intro q; cases q)).trans hB, Nat.le_refl _, Nat.zero_le _, by simp, by simp [sC]⟩⟩⟩⟩)
        · refine wpOp_append_empty w5 rfl rfl (.tmp 29) (.tmp 31) 52 rfl W.heap.size 9 iS _ 1 16 Tryz.underlying52 hiS hS0 hS1 hS2 rfl (by decide) B rfl hB hsB ad n.ls.length cl (sC n.ls) rfl (by rw [sC_len, Nat.mul_one]) (newsS (slS_on hf5 HSL.out)) (oneS _) (by unfold maxLen; omega) (by omega) hf5.size ?_
          intro v6 w6 ho6 hf6
          obtain ⟨a6, k6, e6, hk6⟩ := built_strs2 ho6 HNM.out
          exact hK _ _ (show Fuw W w6 from hf5.trans hf6) (fun _ _ _ h => gcu_on hf6 _ _ h) (fun e he => by cases he; exact ⟨a6, k6, e6, hk6⟩)
      case s8 =>
        refine stepB_of [13, 15] [] [] [] H1 rfl rfl (by kernel_rfl) (by kernel_rfl) (by kernel_rfl) (by kernel_rfl) ?_
        intro σ hp hq x w5 hS hU hV hA Lv hLv K hK
        have m13 : σ 13 = false := hp 13 (by simp)
        have m15 : σ 15 = false := hp 15 (by simp)
        simp only [m13, upB_ne (show (8 : Nat) ≠ 13 by decide), m15, upB_ne (show (8 : Nat) ≠ 15 by decide)] at hS hU hK
        clear hp hq m13 m15
        have u5 : x 5 = .pointer (some ⟨wr.heap.size, 0, none⟩) := hA 5 (by kernel_rfl)
        clear hU hV hA H1 hLv
        rw [frameD63] at hK ⊢
        simp only [u5] at hK ⊢
        refine wpOp_step rfl (fun K' hK' => ?_)
        go_simp
        exact hK' _ _ (hK _ _ hS (fun _ _ _ h => h) (fun e he => by cases he; exact rfl))
      case s9 =>
        refine stepB_of [13, 15] [] [33] [] H1 rfl rfl (by kernel_rfl) (by kernel_rfl) (by kernel_rfl) (by kernel_rfl) ?_
        intro σ hp hq x w5 hS hU hV hA Lv hLv K hK
        have m13 : σ 13 = false := hp 13 (by simp)
        have m15 : σ 15 = false := hp 15 (by simp)
        simp only [m13, upB_ne (show (9 : Nat) ≠ 13 by decide), m15, upB_ne (show (9 : Nat) ≠ 15 by decide)] at hS hU hK
        clear hp hq m13 m15
        have u33 : x 33 = .pointer (some ⟨wr.heap.size, 2, none⟩) := hU 33 (by simp)
        clear hU hV hA H1 hLv
        rw [frameD63] at hK ⊢
        simp only [u33] at hK ⊢
        refine wpOp_step rfl (fun K' hK' => ?_)
        have hf5 : Fuw W w5 := hS
        have q0 := (BW.out.on hf5).c 2
        go_simp
        exact hK' _ _ (hK _ _ hS (fun _ _ _ h => h) (fun e he => by cases he; exact rfl))
      case s10 =>
        refine stepB_of [13, 15] [] [34] [] H1 rfl rfl (by kernel_rfl) (by kernel_rfl) (by kernel_rfl) (by kernel_rfl) ?_
        intro σ hp hq x w5 hS hU hV hA Lv hLv K hK
        have m13 : σ 13 = false := hp 13 (by simp)
        have m15 : σ 15 = false := hp 15 (by simp)
        simp only [m13, upB_ne (show (10 : Nat) ≠ 13 by decide), m15, upB_ne (show (10 : Nat) ≠ 15 by decide)] at hS hU hK
        clear hp hq m13 m15
        have u34 : x 34 = .slice ap n.ps.length cp := hU 34 (by simp)
        clear hU hV hA H1 hLv
        rw [frameD63] at hK ⊢
        simp only [u34] at hK ⊢
        refine wpOp_step rfl (fun K' hK' => ?_)
        have hf5 : Fuw W w5 := hS
        go_simp
        go_wp2_with (go_at_call 44; refine (HSP.out _ hf5).mono ?_; rintro e5 w6 ⟨v5, rfl, ⟨a5, k5, rfl, hk5⟩, f5⟩)
        exact hK _ _ (show Fuw W _ from hf5.trans f5) (fun _ _ _ h => gcu_on f5 _ _ h) (fun e he => by cases he; exact ⟨_, _, rfl, hk5.low hf5.size (fun _ q => by cases q)⟩)
      case s11 =>
        refine stepB_of [13, 15] [] [28, 32, 35] [] H1 rfl rfl (by kernel_rfl) (by kernel_rfl) (by kernel_rfl) (by kernel_rfl) ?_
        intro σ hp hq x w5 hS hU hV hA Lv hLv K hK
        have m13 : σ 13 = false := hp 13 (by simp)
        have m15 : σ 15 = false := hp 15 (by simp)
        simp only [m13, upB_ne (show (11 : Nat) ≠ 13 by decide), m15, upB_ne (show (11 : Nat) ≠ 15 by decide)] at hS hU hK
        clear hp hq m13 m15
        have u28 : x 28 = .int .i64 n.id := hU 28 (by simp)
        obtain ⟨a2, k2, u32, hA2⟩ : ∃ a k, x 32 = .slice a n.ls.length k ∧ Kb W.heap.size none w5 (fun w2 => SlS w2 a n.ls k ∧ w2.ownsRow W.heap.size 9 1 (.slice a n.ls.length k) n.ls.length (sC n.ls)) := hU 32 (by simp)
        obtain ⟨a3, k3, u35, hA3⟩ : ∃ a k, x 35 = .slice a n.ps.length k ∧ Kb W.heap.size none w5 (fun w2 => SlP w2 a n.ps k) := hU 35 (by simp)
        clear hU hV hA H1 hLv
        rw [frameD63] at hK ⊢
        simp only [u28, u32, u35] at hK ⊢
        refine wpOp_step rfl (fun K' hK' => ?_)
        go_simp
        exact hK' _ _ (hK _ _ hS (fun _ _ _ h => h) (fun e he => by cases he; exact ⟨_, _, _, _, rfl, (hA2.and hA3).imp (fun _ h => ⟨h.1.1, h.2, h.1.2⟩)⟩))
      case s12 =>
        refine stepB_of [13, 15] [] [36] [] H1 rfl rfl (by kernel_rfl) (by kernel_rfl) (by kernel_rfl) (by kernel_rfl) ?_
        intro σ hp hq x w5 hS hU hV hA Lv hLv K hK
        have m13 : σ 13 = false := hp 13 (by simp)
        have m15 : σ 15 = false := hp 15 (by simp)
        simp only [m13, upB_ne (show (12 : Nat) ≠ 13 by decide), m15, upB_ne (show (12 : Nat) ≠ 15 by decide)] at hS hU hK
        clear hp hq m13 m15
        obtain ⟨a2, k2, a3, k3, u36, hA2⟩ : ∃ a k a' k', x 36 = .agg #[.int .i64 n.id, .slice a n.ls.length k, .slice a' n.ps.length k'] ∧ Kb W.heap.size none w5 (NodeIn n ((a, k), (a', k')) W.heap.size) := hU 36 (by simp)
        clear hU hV hA H1 hLv
        rw [frameD63] at hK ⊢
        simp only [u36] at hK ⊢
        refine wpOp_step rfl (fun K' hK' => ?_)
        have hf5 : Fuw W w5 := hS
        go_simp
        exact hK' _ _ (hK _ _ (show Fuw W _ from hf5.alloc _) (fun _ _ _ h => gcu_on (fuwA _ _) _ _ h) (fun e he => by cases he; exact ⟨_, _, _, _, _, rfl, Bk.new _ _ _, hA2.later (fuwA _ _)⟩))
      case s13 =>
        refine stepB_of [13, 15] [] [26, 37] [] H1 rfl rfl (by kernel_rfl) (by kernel_rfl) (by kernel_rfl) (by kernel_rfl) ?_
        intro σ hp hq x w5 hS hU hV hA Lv hLv K hK
        have m13 : σ 13 = false := hp 13 (by simp)
        have m15 : σ 15 = false := hp 15 (by simp)
        simp only [m13, upB_eq, m15, upB_ne (show (13 : Nat) ≠ 15 by decide)] at hS hU hK
        clear hp hq m13 m15
        have u26 : x 26 = ov := hU 26 (by simp)
        obtain ⟨B, a2, k2, a3, k3, u37, hB, hA2⟩ : ∃ B a k a' k', x 37 = .slice (some ⟨B, 0, none⟩) 1 1 ∧ Bk w5 B #[.int .i64 n.id, .slice a n.ls.length k, .slice a' n.ps.length k'] 57 ∧ Kb W.heap.size none w5 (NodeIn n ((a, k), (a', k')) W.heap.size) := hU 37 (by simp)
        clear hU hV hA H1
        rw [frameD63] at hK ⊢
        simp only [u26, u37] at hK ⊢
        have hf5 : Fuw W w5 := hS
        have hst := HSW.out
        have hst2 := hf5.size
        have hfw := HF.out.trans hf5
        refine wpOp_append w5 rfl rfl (.tmp 26) (.tmp 37) 22 rfl s1 57 iN _ 3 56 Tryz.underlying22 hiN hN0 hN1 hN2 rfl (by decide) _ ps.length (LNi.cs ps) rfl (own_on HO.out.own hf5) ⟨B, 0, none⟩ 1 1 (LNi.C n (((a2, k2), (a3, k3)), W.heap.size, w5.heap.size)) rfl rfl (World.news_of_block hB) (one_N _ _) (by unfold maxLen; omega) (by omega) (by omega) ?_
        intro v3 w3 hown3 hgrow hat
        refine hK v3 w3 ⟨Below.grown hfw hgrow hfw.size (fun k hk => Nat.le_trans (by omega) (HOB.out k hk).1), (R1.out.on hf5).grow hgrow (fun q => by have := (HOB.out _ q.symm).1; omega), (R2.out.on hf5).grow hgrow (fun q => by have := (HOB.out _ q.symm).1; omega), (R3.out.on hf5).grow hgrow (fun q => by have := (HOB.out _ q.symm).1; omega)⟩ (fun t u hl hu => ?_) (fun e he => ?_)
        · by_cases h39 : t = 39
          · subst h39; exact hu
          · have ht : kGc true false t = 0 := by
              unfold kGc
              rcases dead39 (hLv t hl) (by kernel_rfl) with e | e
              · exact absurd e h39
              · exact e
            show GcU _ _ _ _ _ _ _ _ _ _ _ (kGc true false t) _ _
            rw [ht]; trivial
        · cases he
          exact ⟨ps ++ [(n, ((a2, k2), (a3, k3)), W.heap.size, w5.heap.size)], HTT.out _, ownns_snoc (ownns_on HO.out hf5) hA2 hst HPS.out (fun k hk => (HOB.out k hk).2) hown3 hgrow hat⟩
      case s14 =>
        refine stepB_of [15] [] [] [] H1 rfl rfl (by kernel_rfl) (by kernel_rfl) (by kernel_rfl) (by kernel_rfl) ?_
        intro σ hp hq x w5 hS hU hV hA Lv hLv K hK
        have m15 : σ 15 = false := hp 15 (by simp)
        simp only [upB_ne (show (14 : Nat) ≠ 13 by decide), m15, upB_ne (show (14 : Nat) ≠ 15 by decide)] at hS hU hK
        clear hp hq m15
        have u3 : x 3 = .pointer (some ⟨w.heap.size + 1 + 1, 0, none⟩) := hA 3 (by kernel_rfl)
        clear hU hV hA H1 hLv
        rw [frameD63] at hK ⊢
        simp only [u3] at hK ⊢
        refine wpOp_step rfl (fun K' hK' => ?_)
        go_simp
        exact hK' _ _ (hK _ _ hS (fun _ _ _ h => h) (fun e he => by cases he; cases σ 13 <;> exact rfl))
      case s15 =>
        refine stepB_of [15] [13] [38, 39] [] H1 rfl rfl (by kernel_rfl) (by kernel_rfl) (by kernel_rfl) (by kernel_rfl) ?_
        intro σ hp hq x w5 hS hU hV hA Lv hLv K hK
        have m13 : σ 13 = true := hq 13 (by simp)
        have m15 : σ 15 = false := hp 15 (by simp)
        simp only [m13, upB_ne (show (15 : Nat) ≠ 13 by decide), m15, upB_eq] at hS hU hK
        clear hp hq m13 m15
        have hv5 : OwnN s1 L1 (x 38) w5 := hU 38 (by simp)
        have u39 : x 39 = .pointer (some ⟨w.heap.size + 1 + 1, 0, none⟩) := hU 39 (by simp)
        clear hU hV hA H1 hLv
        rw [frameD63] at hK ⊢
        simp only [u39] at hK ⊢
        refine wpOp_step rfl (fun K' hK' => ?_)
        obtain ⟨hf5, r1, r2, r3⟩ := hS
        have q0 := r3.c 0
        have qf := r3.f 0
        obtain ⟨a7, k7, e7⟩ := ownn_form hv5
        rw [e7] at hv5
        simp only [e7] at hK ⊢
        go_simp
        exact hK' _ _ (hK undef _ (⟨fuwS hf5 (by omega), r1.far (show w.heap.size ≠ w.heap.size + 1 + 1 by omega) _, r2.far (show w.heap.size + 1 ≠ w.heap.size + 1 + 1 by omega) _, _, r3.set_ 0 _, ownn_far hv5 hsz _⟩ : SGc w W w.heap.size (w.heap.size + 1) (w.heap.size + 1 + 1) _ _ ov _ _ s1 L1 true true _) (fun t u hl hu => by show GcU _ _ _ _ _ _ _ _ _ _ _ (kGc true true t) _ _; rw [show kGc true true t = 0 from dead_d t]; trivial) (fun e he => by cases he))
      case base =>
        refine midB_start rfl rfl (show Fuw W W.drew from Fuw.drew (Fuw.refl _)) (fun t ht hh => ?_) (fun t => trivial)
        rcases start_of (ks := kGcF) (L := []) (by kernel_rfl) t ht hh with e | e
        · show GcU _ _ _ _ _ _ _ _ _ _ _ (kGcF.getD t 0) _ _
          rw [e]; trivial
        · cases e
      case fin =>
        intro x w5 hS hU hA
        rename_i hk
        refine hk _ _ ?_
        obtain ⟨hf5, r1, r2, v5, r3, hv5⟩ := hS
        have HF5 := Lib.hid hf5
        have HR1 := Lib.hid r1
        have HR2 := Lib.hid r2
        have HR3 := Lib.hid r3
        rw [HL1.out] at hv5
        have HV5 := Lib.hid hv5
        have HS5 := Lib.hid (show s1 ≤ w5.heap.size from by have := bk_lt r3; have := HS1.out; have := HZ0.out; omega)
        have u0 : x 0 = .agg #[.slice (some ⟨b, o, none⟩) g.ns.length cn, .slice ae g.es.length ce, .int .i64 g.nn, .int .i64 g.ne] := hA 0 (by kernel_rfl)
        have u1 : x 1 = .pointer (some ⟨w.heap.size, 0, none⟩) := hA 1 (by kernel_rfl)
        have u2 : x 2 = .pointer (some ⟨w.heap.size + 1, 0, none⟩) := hA 2 (by kernel_rfl)
        have u3 : x 3 = .pointer (some ⟨w.heap.size + 1 + 1, 0, none⟩) := hA 3 (by kernel_rfl)
        have u4 : x 4 = .int .i64 i := hA 4 (by kernel_rfl)
        have u6 : x 6 = undef := hA 6 (by kernel_rfl)
        have u7 : x 7 = undef := hA 7 (by kernel_rfl)
        have u40 : x 40 = undef := hA 40 (by kernel_rfl)
        have u41 : x 41 = undef := hA 41 (by kernel_rfl)
        have u42 : x 42 = undef := hA 42 (by kernel_rfl)
        have u43 : x 43 = undef := hA 43 (by kernel_rfl)
        have u44 : x 44 = undef := hA 44 (by kernel_rfl)
        have u45 : x 45 = undef := hA 45 (by kernel_rfl)
        have u46 : x 46 = undef := hA 46 (by kernel_rfl)
        have u47 : x 47 = undef := hA 47 (by kernel_rfl)
        have u48 : x 48 = undef := hA 48 (by kernel_rfl)
        have u49 : x 49 = undef := hA 49 (by kernel_rfl)
        have u50 : x 50 = undef := hA 50 (by kernel_rfl)
        have u51 : x 51 = undef := hA 51 (by kernel_rfl)
        have u52 : x 52 = undef := hA 52 (by kernel_rfl)
        have u53 : x 53 = undef := hA 53 (by kernel_rfl)
        have u54 : x 54 = undef := hA 54 (by kernel_rfl)
        have u55 : x 55 = undef := hA 55 (by kernel_rfl)
        have u56 : x 56 = undef := hA 56 (by kernel_rfl)
        have u57 : x 57 = undef := hA 57 (by kernel_rfl)
        have u58 : x 58 = undef := hA 58 (by kernel_rfl)
        have u59 : x 59 = undef := hA 59 (by kernel_rfl)
        have u60 : x 60 = undef := hA 60 (by kernel_rfl)
        have u61 : x 61 = undef := hA 61 (by kernel_rfl)
        have u62 : x 62 = undef := hA 62 (by kernel_rfl)
        have u8 : x 8 = .pointer (some ⟨w.heap.size, 2, none⟩) := hA 8 (by kernel_rfl)
        have u9 : x 9 = .int .i64 g.nn := hA 9 (by kernel_rfl)
        have u10 : x 10 = .pointer (some ⟨w.heap.size, 3, none⟩) := hA 10 (by kernel_rfl)
        have u11 : x 11 = .int .i64 g.ne := hA 11 (by kernel_rfl)
        have u12 : x 12 = .agg #[.slice none 0 0, .slice none 0 0, .int .i64 g.nn, .int .i64 g.ne] := hA 12 (by kernel_rfl)
        clear hU hA hf5 r1 r2 r3 hv5
        rw [frameD63]
        simp only [u0, u1, u2, u3, u4, u6, u7, u40, u41, u42, u43, u44, u45, u46, u47, u48, u49, u50, u51, u52, u53, u54, u55, u56, u57, u58, u59, u60, u61, u62, u8, u9, u10, u11, u12]
        clear u0 u1 u2 u3 u4 u6 u7 u40 u41 u42 u43 u44 u45 u46 u47 u48 u49 u50 u51 u52 u53 u54 u55 u56 u57 u58 u59 u60 u61 u62 u8 u9 u10 u11 u12
        go_wp2
        go_roundw
        case rel => exact ⟨i + 1, v5, by go_num, by omega, HR1, HR2, HR3, HV5, HF5, HS5⟩
        case measure => simp [RowKit.intOf]; omega
    · obtain ⟨wo, rfl⟩ : ∃ z, z = wr := ⟨wr, rfl⟩
      have hov := ho.out
      rw [List.take_of_length_le (by omega)] at hov
      obtain ⟨ao', cap', e'⟩ := ownn_form hov
      subst e'
      have HN := Lib.hid hov
      have G1 := Lib.hid p1.out
      have G2 := Lib.hid p2.out
      have G3 := Lib.hid p3.out
      have HFO := Lib.hid hf.out
      have HSO := Lib.hid hss.out
      clear hov p1 p2 p3 ho hf hss
      obtain ⟨s2, hs2⟩ : ∃ s2, s2 = wo.heap.size := ⟨_, rfl⟩
      have HS2 := Lib.hid hs2
      have hs12 : s1 ≤ s2 := by rw [hs2]; exact HSO.out
      have HST := Lib.hid (show OwnL LE 59 s2 (g.es.take 0) (.slice none 0 0) wo from ⟨[], rfl, World.ownsRow_nil _ _ _ _, Kb.triv LE.Ns_nil⟩)
      clear hs2
      go_wp2
      clear q0 q1 hii hlt
      go_loopw [6] (fun iv wx => ∃ (i : Nat) (ev : Value), iv = .int .i64 i ∧ i ≤ g.es.length ∧ Hid (Bk wx w.heap.size #[.slice an g.ns.length cn, .slice ae g.es.length ce, .int .i64 g.nn, .int .i64 g.ne] 25) ∧ Hid (Bk wx (w.heap.size + 1) #[.slice none 0 0, .slice none 0 0, .int .i64 0, .int .i64 0] 25) ∧ Hid (Bk wx (w.heap.size + 1 + 1) #[.slice ao' g.ns.length cap', ev, .int .i64 g.nn, .int .i64 g.ne] 25) ∧ Hid (OwnL LE 59 s2 (g.es.take i) ev wx) ∧ Hid (Fuw w wx) ∧ Hid (s2 ≤ wx.heap.size) ∧ Hid (∀ b, s1 ≤ b → b < s2 → wx.heap[b]? = wo.heap[b]?)) (fun iv _ => g.es.length - (RowKit.intOf iv).toNat)
      case atStart => exact ⟨0, .slice none 0 0, rfl, Nat.zero_le _, G1, G2, G3, HST, HFO, Nat.le_of_eq HS2.out, fun _ _ _ => rfl⟩
      case round =>
        rename_i wr
        obtain ⟨i, ev, rfl, hii, p1, p2, p3, ho, hf, hss, huk⟩ := hrel
        have q0 : wr.cell? ⟨w.heap.size, 0, none⟩ = some (.slice an g.ns.length cn) := p1.out.c 0
        have q1 : wr.cell? ⟨w.heap.size, 1, none⟩ = some (.slice ae g.es.length ce) := p1.out.c 1
        by_cases hlt : i < g.es.length
        · obtain ⟨b, o, rfl, -, -, -, -, c0, c1, c2, c3, ap, cp, c4, hsp⟩ := (HGI.out.on hf.out).e.get hlt
          obtain ⟨ps, hT, hown, hK⟩ := ho.out
          have hps : ps.length = i := by
            have := congrArg List.length hT
            rw [List.length_take, List.length_map] at this
            omega
          have HTT := Lib.hid (fun m => take_fsts hT hlt m)
          obtain ⟨hmp, hmv⟩ := HM.out.el _ (List.getElem_mem hlt)
          obtain ⟨n, hn⟩ : ∃ n, n = g.es[i] := ⟨_, rfl⟩
          obtain ⟨L1, hL1⟩ : ∃ L1, L1 = g.es.take (i + 1) := ⟨_, rfl⟩
          rw [← hL1, ← hn] at HTT
          rw [← hn] at c0 c1 c2 c3 c4 hsp hmp hmv
          have HL1 := Lib.hid hL1
          have hpl : ps.length ≤ 1000000 := by omega
          have HV := Lib.hid hmv
          clear hT hps hn hL1 hmv ho
          go_upto_region 11 with fail
          obtain ⟨W, hW⟩ : ∃ W, W = wr.alloc (.cells #[.int .i64 n.id, .int .i64 n.fr, .int .i64 n.to, .string (bs n.ty), .slice ap n.ps.length cp] 59) := ⟨_, rfl⟩
          have fW : Fuw wr W := by rw [hW]; exact fuwA _ _
          have BW := Lib.hid (show Bk W wr.heap.size #[.int .i64 n.id, .int .i64 n.fr, .int .i64 n.to, .string (bs n.ty), .slice ap n.ps.length cp] 59 from by rw [hW]; exact Bk.new _ _ _)
          rw [← hW]
          have HSP := Lib.hid (rprops_any n.ps ap cp W (slP_on fW hsp) hmp HV.out)
          have FW := Lib.hid fW
          clear hW fW hsp q0 q1 c0 c1 c2 c3 c4
          have d4 := BW.out.c 4
          go_wp2_with fail
          go_at_call 44; refine HSP.out.mono ?_; rintro e w1 ⟨v1, rfl, ⟨a2, k2, rfl, hk1⟩, f1⟩
          have b1 := BW.out.on f1
          have HB1 := Lib.hid b1
          have d4' := b1.c 4
          have q4 := b1.f 4
          have F1 := Lib.hid (FW.out.trans f1)
          have HZ1 := Lib.hid f1.size
          have HK1 := Lib.hid (kb_far (j := 4) (u := .slice a2 n.ps.length k2) hk1 BW.out.lt)
          clear d4 b1 f1 hk1 HSP
          go_upto_region 12 with fail
          obtain ⟨V, hV⟩ : ∃ V, V = w1.setCell ⟨wr.heap.size, 4, none⟩ (.slice a2 n.ps.length k2) := ⟨_, rfl⟩
          have HKV := Lib.hid (show Kb W.heap.size none V (fun w2 => SlP w2 a2 n.ps k2) from by rw [hV]; exact HK1.out)
          have FV := Lib.hid (show Fuw wr V from by rw [hV]; exact fuwS F1.out (Nat.le_refl _))
          have bV : Bk V wr.heap.size #[.int .i64 n.id, .int .i64 n.fr, .int .i64 n.to, .string (bs n.ty), .slice a2 n.ps.length k2] 59 := by rw [hV]; exact HB1.out.set_ 4 _
          rw [← hV]
          have HSW := Lib.hid (show wr.heap.size ≤ W.heap.size ∧ W.heap.size ≤ V.heap.size from ⟨FW.out.size, by rw [hV]; have := HZ1.out; simp; omega⟩)
          have R1 := Lib.hid (p1.out.on FV.out)
          have R2 := Lib.hid (p2.out.on FV.out)
          have R3 := Lib.hid (p3.out.on FV.out)
          clear hV d4' q4 HK1 p1 p2 p3
          have c0 := bV.c 0
          have c1 := bV.c 1
          have c2 := bV.c 2
          have c3 := bV.c 3
          have c4 := bV.c 4
          have r1 := R3.out.c 1
          have HO := Lib.hid hown
          have HK := Lib.hid hK
          have hownV := own_on hown FV.out
          clear bV hown hK
          have hst := hss.out
          have hst2 := FV.out.size
          go_wp2_with (at_builtin; refine wpList_append_own_at _ rfl (.tmp 57) (.tmp 59) 23 rfl s2 59 iE _ 5 64 Tryz.underlying23 hiE hE0 hE1 hE2 rfl (by decide) _ ps.length (LE.cs ps) rfl (hownV.alloc _) ⟨V.heap.size, 0, none⟩ 1 1 (LE.C n (a2, k2)) rfl rfl (World.news_of_block (heap_alloc_new V _)) (one_E _ _) (by unfold maxLen; omega) (by omega) (by simp; omega) ?_; intro v3 w3 hown3 hgrow _ hat; obtain ⟨a7, k7, rfl⟩ := own_slice hown3; have ne3 : some (w.heap.size + 1 + 1) ≠ ev.ownBlock := (fun q => by have := (HO.out.lt _ q.symm).1; omega); have r3 := ((R3.out.on (fuwA V _)).grow hgrow ne3); have t1 := r3.c 1; have t2 := r3.f 1)
          have ne1 : some w.heap.size ≠ ev.ownBlock := (fun q => by have := (HO.out.lt _ q.symm).1; omega)
          have ne2 : some (w.heap.size + 1) ≠ ev.ownBlock := (fun q => by have := (HO.out.lt _ q.symm).1; omega)
          have F3 := Lib.hid (show Fuw w w3 from Below.grown ((hf.out.trans FV.out).alloc _) hgrow ((hf.out.trans FV.out).alloc _).size (fun k hk => Nat.le_trans (by omega) (HO.out.lt k hk).1))
          have HR1 := Lib.hid (((R1.out.on (fuwA V _)).grow hgrow ne1).far (p := ⟨w.heap.size + 1 + 1, 1, none⟩) (show w.heap.size ≠ w.heap.size + 1 + 1 by omega) (.slice a7 (ps.length + 1) k7))
          have HR2 := Lib.hid (((R2.out.on (fuwA V _)).grow hgrow ne2).far (p := ⟨w.heap.size + 1 + 1, 1, none⟩) (show w.heap.size + 1 ≠ w.heap.size + 1 + 1 by omega) (.slice a7 (ps.length + 1) k7))
          have HR3 := Lib.hid (r3.set_ 1 (.slice a7 (ps.length + 1) k7))
          have HOW := Lib.hid (show OwnL LE 59 s2 (g.es.take (i + 1)) (.slice a7 (ps.length + 1) k7) (w3.setCell ⟨w.heap.size + 1 + 1, 1, none⟩ (.slice a7 (ps.length + 1) k7)) from ownl_far ⟨ps ++ [(n, (a2, k2))], HL1.out.symm.trans (HTT.out (a2, k2)), by rw [Lay.cs_app, Lay.cs_one, List.length_append]; exact hown3,
            ((((HK.out.later FV.out).later (fuwA V _)).and ((HKV.out.later (fuwA V _)).low (o := _) (by have := HSW.out; omega) (fun k hk => .inl (Nat.lt_of_lt_of_le (HO.out.lt k hk).2 HSW.out.1)))).imp (fun _ h => Lay.Ns_snoc (p := (n, (a2, k2))) h.1 h.2)).grown hgrow hat⟩ (by omega) (.slice a7 (ps.length + 1) k7))
          have HF3 := Lib.hid (show Fuw w (w3.setCell ⟨w.heap.size + 1 + 1, 1, none⟩ (.slice a7 (ps.length + 1) k7)) from fuwS F3.out (by omega))
          have HS3 := Lib.hid (show s2 ≤ (w3.setCell ⟨w.heap.size + 1 + 1, 1, none⟩ (.slice a7 (ps.length + 1) k7)).heap.size from by have := hgrow.size; simp at this; simp; omega)
          have HU3 := Lib.hid (show ∀ b, s1 ≤ b → b < s2 → (w3.setCell ⟨w.heap.size + 1 + 1, 1, none⟩ (.slice a7 (ps.length + 1) k7)).heap[b]? = wo.heap[b]? from fun b hb1 hb2 => by
            rw [heap_far (by omega), hgrow.block b (by simp; omega) (fun q => by have := (HO.out.lt _ q.symm).1; omega), Below.heap_alloc V _ b (by omega), Below.block FV.out b (by omega)]
            exact huk.out b hb1 hb2)
          clear hown3 hownV hgrow hat c0 c1 c2 c3 c4 r1 r3 t1 t2 ne1 ne2 ne3
          go_wp2
          go_roundw
          case rel => exact ⟨i + 1, (.slice a7 (ps.length + 1) k7), by go_num, by omega, HR1, HR2, HR3, HOW, HF3, HS3, HU3⟩
          case measure => simp [RowKit.intOf]; omega
        · have hov := ho.out
          rw [List.take_of_length_le (by omega)] at hov
          obtain ⟨ae', ce', e'⟩ := ownl_form hov HIE.out
          subst e'
          have hs := hss.out
          have r0 := p3.out.c 0
          have r1 := p3.out.c 1
          have r2 := p3.out.c 2
          have r3 := p3.out.c 3
          have x0 := p2.out.c 0
          have x1 := p2.out.c 1
          have x2 := p2.out.c 2
          have x3 := p2.out.c 3
          have y0 := p2.out.f 0
          have y1 := p2.out.f 1
          have y2 := p2.out.f 2
          have y3 := p2.out.f 3
          have HOV := Lib.hid hov
          have HB2 := Lib.hid ((((p2.out.set_ 0 (.slice ao' g.ns.length cap')).set_ 1 (.slice ae' g.es.length ce')).set_ 2 (.int .i64 g.nn)).set_ 3 (.int .i64 g.ne))
          clear hov
          go_wp2
          try simp only [Exit.inBlock, Exit.then]
          refine g_ret rfl rfl HB2.out ⟨s1, ao', ae', cap', ce', wo, rfl, by omega, HSO.out, HN.out, ?_, ?_, ?_, ?_⟩
          · rw [← HS2.out]; simp; exact hs
          · intro b hb1 hb2
            rw [← HS2.out] at hb2
            rw [heap_far (by omega), heap_far (by omega), heap_far (by omega), heap_far (by omega)]
            exact huk.out b hb1 hb2
          · rw [← HS2.out]
            exact ownl_far (ownl_far (ownl_far (ownl_far HOV.out (by omega) _) (by omega) _) (by omega) _) (by omega) _
          · exact fuwS (fuwS (fuwS (fuwS hf.out (by omega)) (by omega)) (by omega)) (by omega)
end Go.Proofs.YtdalienglcpjbaaGreatDoor
