/-
  The law GraphSame of package graph, walked. Nothing that was there turns.
-/
import Derived.Test.YtkcmakfmeioakaaGreatM31
import Derived.Test.YtkcmakfmeioakaaGreatGtD
import Derived.Test.YtkcmakfmeioakaaGreatM35
import Derived.Test.YtkcmakfmeioakaaGreatCpC
namespace Go.Proofs.YtkcmakfmeioakaaGreat
open Go.RowKit

/-- Nodes in blocks that have not turned. -/
theorem ownns_keep {base : Nat} {v : Value} {w w' : World} {ps : List (Nd × NMe)} (h2 : OwnNs base v w ps) (hs : w.heap.size ≤ w'.heap.size) (hk : ∀ b, base ≤ b → b < w.heap.size → w'.heap[b]? = w.heap[b]?) : OwnNs base v w' ps := by
  refine ⟨own_heap h2.own fun g hg => hk g (h2.own.lt g hg).1 (h2.own.lt g hg).2, fun p hp => LNi.on (h2.ins p hp) fun b k1 k2 => hk b ?_ ?_, h2.ord, fun p hp => ⟨(h2.rng p hp).1, Nat.le_trans (h2.rng p hp).2.1 hs, (h2.rng p hp).2.2⟩⟩
  · exact Nat.le_trans (h2.rng p hp).1 k1
  · exact Nat.lt_of_lt_of_le k2 (h2.rng p hp).2.1
theorem ownl_sl {l : List Ed} {base : Nat} {a : Option Addr} {k : Nat} {w : World} (h : OwnL LE 35 base l (.slice a l.length k) w) (hv : ∀ x ∈ l, LE.I x) : SlE w a l k := by
  obtain ⟨ps, rfl, h2, h3⟩ := h
  obtain ⟨ao, cap, e, -, hs⟩ := Lay.sl_own (Y := LE) h2 (fun p hp => hv _ (List.mem_map_of_mem hp)) h3.now
  rw [List.length_map] at e
  cases e
  exact hs
theorem ownn_sl2 {l : List Nd} {base : Nat} {a : Option Addr} {k : Nat} {w : World} (h : OwnN base l (.slice a l.length k) w) (hv : ∀ x ∈ l, I64 x.id) : SlN w a l k := by
  obtain ⟨ao, cap, e, hs⟩ := ownn_sl h hv
  cases e
  exact hs
/-- Nothing that w held has turned but one row. -/
def Kx (w : World) (ob : Option Nat) (w' : World) : Prop := w.heap.size ≤ w'.heap.size ∧ ∀ b, b < w.heap.size → some b ≠ ob → w'.heap[b]? = w.heap[b]?
theorem kx_bk {w w' : World} {ob : Option Nat} {B : Nat} {cs : Array Value} {t : TypeId} (h : Kx w ob w') (hb : Bk w B cs t) (hn : some B ≠ ob) : Bk w' B cs t := (h.2 B hb.lt hn).trans hb
theorem kx_cell {w w' : World} {ob : Option Nat} {b o : Nat} {v : Value} (h : Kx w ob w') (hc : w.cell? ⟨b, o, none⟩ = some v) (hn : some b ≠ ob) : w'.cell? ⟨b, o, none⟩ = some v := by
  rw [cell_heap (h.2 b (World.block_lt_of_cell? w _ hc) hn)]; exact hc
theorem w64_pred {n : Int} : I64 n → I64 (wrap64 (n - 1)) ∧ n ≠ wrap64 (n - 1) := by
  unfold I64 wrap64
  omega
theorem w64_succ {n : Int} : I64 n → I64 (wrap64 (n + 1)) ∧ n ≠ wrap64 (n + 1) := by
  unfold I64 wrap64
  omega
theorem own_low {w : World} {base base' e size : Nat} {v : Value} {n : Nat} {xs : List Value} (h : w.ownsRow base e size v n xs) (hb : base' ≤ base) : w.ownsRow base' e size v n xs :=
  ⟨h.1, h.2.imp id fun ⟨g, cap, cur, e1, h1, h2⟩ => ⟨g, cap, cur, e1, Nat.le_trans hb h1, h2⟩⟩
theorem kx_of {w w' : World} {ob : Option Nat} (h : Fuw w w') : Kx w ob w' := ⟨h.size, fun b hb _ => Below.block h b hb⟩
theorem frozen_heap {w w' : World} {b o : Nat} (h : w'.heap[b]? = w.heap[b]?) : w'.frozen? ⟨b, o, none⟩ = w.frozen? ⟨b, o, none⟩ := by simp [World.frozen?, h]
theorem kx_froz {w w' : World} {ob : Option Nat} {b o : Nat} {v : Value} (h : Kx w ob w') (hc : w.cell? ⟨b, o, none⟩ = some v ∧ w.frozen? ⟨b, o, none⟩ = false) (hn : some b ≠ ob) : w'.frozen? ⟨b, o, none⟩ = false := by
  rw [frozen_heap (h.2 b (World.block_lt_of_cell? w _ hc.1) hn)]; exact hc.2
theorem own_froz {w : World} {base e size B n cap m : Nat} {xs : List Value} (h : w.ownsRow base e size (.slice (some ⟨B, 0, none⟩) n cap) m xs) (j : Nat) : w.frozen? ⟨B, j, none⟩ = false := by
  rcases h.2 with ⟨e, -⟩ | ⟨g, cap, cur, e, -, h1, -⟩
  · cases e
  · cases e
    simp [World.frozen?, h1]
theorem one_Z : ∀ u ∈ [Value.string ⟨#[90]⟩], u.oneCell' = true := by
  intro u hu
  rw [List.mem_singleton] at hu
  subst hu; rfl
def GsT (w0 W : World) (ob : Option Nat) (B j n : Nat) : Bool → Bool → World → Prop
  | a, false, w' => Fuw w0 w' ∧ Kx W ob w' ∧ (a = false → Fuw W w')
  | _, true, w' => ∃ w3 a3 k3, Fuw w0 w3 ∧ Kx W ob w3 ∧ w' = w3.setCell ⟨B, j, none⟩ (.slice a3 n k3)
/-- What a slot holds once it is written, by the slot's class. -/
def GsU (Bc B i n cap : Nat) (al : Option Addr) (nl cl : Nat) : Nat → World → Value → Prop
  | 1, _, v => v = .pointer (some ⟨Bc, 0, none⟩)
  | 2, _, v => v = .slice (some ⟨B, 0, none⟩) n cap
  | 3, _, v => v = .int .i64 i
  | 4, _, v => v = .pointer (some ⟨B, i * 3, none⟩)
  | 5, _, v => v = .pointer (some ⟨B, i * 3 + 1, none⟩)
  | 6, _, v => v = .slice al nl cl
  | 7, w, v => ∃ Bz, v = .slice (some ⟨Bz, 0, none⟩) 1 1 ∧ Bk w Bz #[.string ⟨#[90]⟩] 9
  | 8, _, v => ∃ a3 k3, v = .slice a3 (nl + 1) k3
  | _, _, _ => True
def kGsF : List Nat := [0, 0, 0, 0, 0, 0, 0, 0, 0, 0, 0, 0, 0, 0, 0, 0, 0, 0, 0, 0, 0, 0, 0, 0, 0, 0, 0, 0, 0, 0, 0, 0, 0, 0, 0, 0, 0, 0, 0, 0, 0, 0, 0, 0, 0, 0, 0, 0, 0, 1, 2, 3, 1, 2, 3, 4, 5, 6, 7, 8, 4, 5, 0, 0, 0, 0, 0, 0, 0, 0, 0, 0, 0, 0, 0, 0, 0, 0, 0, 0, 0, 0, 0, 0, 0, 0, 0, 0, 0, 0, 0, 0, 0, 0, 0, 0]
def kGsT : List Nat := [0, 0, 0, 0, 0, 0, 0, 0, 0, 0, 0, 0, 0, 0, 0, 0, 0, 0, 0, 0, 0, 0, 0, 0, 0, 0, 0, 0, 0, 0, 0, 0, 0, 0, 0, 0, 0, 0, 0, 0, 0, 0, 0, 0, 0, 0, 0, 0, 0, 1, 2, 3, 1, 2, 3, 4, 5, 6, 0, 8, 4, 5, 0, 0, 0, 0, 0, 0, 0, 0, 0, 0, 0, 0, 0, 0, 0, 0, 0, 0, 0, 0, 0, 0, 0, 0, 0, 0, 0, 0, 0, 0, 0, 0, 0, 0]
def kGs (b : Bool) (t : Nat) : Nat := (match b with | false => kGsF | true => kGsT).getD t 0
theorem gsu_on {Bc B i n cap : Nat} {al : Option Addr} {nl cl : Nat} {w w' : World} (hf : Fuw w w') : ∀ (k : Nat) (u : Value), GsU Bc B i n cap al nl cl k w u → GsU Bc B i n cap al nl cl k w' u := by
  intro k u h
  match k, h with
  | 0, h => exact h
  | 1, h => exact h
  | 2, h => exact h
  | 3, h => exact h
  | 4, h => exact h
  | 5, h => exact h
  | 6, h => exact h
  | 7, ⟨B, h1, h2⟩ => exact ⟨B, h1, h2.on hf⟩
  | 8, h => exact h
  | _ + 9, h => exact h
/-- Where no slot is told of the new block, what is told does not hang on the world. -/
theorem gsu_any {Bc B i n cap : Nat} {al : Option Addr} {nl cl : Nat} {w w' : World} : ∀ (k : Nat) (u : Value), k ≠ 7 → GsU Bc B i n cap al nl cl k w u → GsU Bc B i n cap al nl cl k w' u := by
  intro k u hk h
  match k, hk, h with
  | 0, _, h => exact h
  | 1, _, h => exact h
  | 2, _, h => exact h
  | 3, _, h => exact h
  | 4, _, h => exact h
  | 5, _, h => exact h
  | 6, _, h => exact h
  | 7, hk, _ => exact absurd rfl hk
  | 8, _, h => exact h
  | _ + 9, _, h => exact h
theorem kgs_t (t : Nat) : kGs true t ≠ 7 ∧ (kGs false t ≠ 7 → kGs false t = kGs true t) := by
  unfold kGs
  rcases Nat.lt_or_ge t 96 with k | k
  · have q : ∀ t, t < 96 → kGsT.getD t 0 ≠ 7 ∧ (kGsF.getD t 0 ≠ 7 → kGsF.getD t 0 = kGsT.getD t 0) := by decide
    exact q t k
  · have e1 : kGsT.getD t 0 = 0 := by rw [List.getD_eq_getElem?_getD, List.getElem?_eq_none (by show kGsT.length ≤ t; exact k)]; rfl
    have e2 : kGsF.getD t 0 = 0 := by rw [List.getD_eq_getElem?_getD, List.getElem?_eq_none (by show kGsF.length ≤ t; exact k)]; rfl
    show kGsT.getD t 0 ≠ 7 ∧ (kGsF.getD t 0 ≠ 7 → kGsF.getD t 0 = kGsT.getD t 0)
    rw [e1, e2]; exact ⟨by decide, fun _ => rfl⟩
theorem gsu_app {Bc B i n cap : Nat} {al : Option Addr} {nl cl : Nat} {w w' : World} (t : Nat) (u : Value) (h : GsU Bc B i n cap al nl cl (kGs false t) w u) : GsU Bc B i n cap al nl cl (kGs true t) w' u := by
  obtain ⟨h1, h2⟩ := kgs_t t
  by_cases e : kGs false t = 7
  · have e3 : kGs true t = 0 := by
      have q : ∀ t, t < 96 → kGsF.getD t 0 = 7 → kGsT.getD t 0 = 0 := by decide
      rcases Nat.lt_or_ge t 96 with k | k
      · exact q t k e
      · exfalso
        have e2 : kGsF.getD t 0 = 0 := by rw [List.getD_eq_getElem?_getD, List.getElem?_eq_none (by show kGsF.length ≤ t; exact k)]; rfl
        have e4 : kGsF.getD t 0 = 7 := e
        rw [e2] at e4; cases e4
    rw [e3]; trivial
  · rw [← h2 e]; exact gsu_any _ _ e h
theorem frameD96 (x : Nat → Value) : frameD 96 x = ⟨#[x 0, x 1, x 2, x 3, x 4, x 5, x 6, x 7, x 8, x 9, x 10, x 11, x 12, x 13, x 14, x 15, x 16, x 17, x 18, x 19, x 20, x 21, x 22, x 23, x 24, x 25, x 26, x 27, x 28, x 29, x 30, x 31, x 32, x 33, x 34, x 35, x 36, x 37, x 38, x 39, x 40, x 41, x 42, x 43, x 44, x 45, x 46, x 47, x 48, x 49, x 50, x 51, x 52, x 53, x 54, x 55, x 56, x 57, x 58, x 59, x 60, x 61, x 62, x 63, x 64, x 65, x 66, x 67, x 68, x 69, x 70, x 71, x 72, x 73, x 74, x 75, x 76, x 77, x 78, x 79, x 80, x 81, x 82, x 83, x 84, x 85, x 86, x 87, x 88, x 89, x 90, x 91, x 92, x 93, x 94, x 95], []⟩ := rfl
set_option maxHeartbeats 12800000 in
set_option maxRecDepth 100000 in
theorem sameg_in (g h : Gr) (an ae bn be : Option Addr) (cn ce dn de : Nat) (k : Nat) (w : World) (hg : GIn w g an ae cn ce) (hh : GIn w h bn be dn de) (hk : k ≤ 255) (hsg : smlV g 60 100 = true) (hsh : smlV h 60 100 = true) :
    Calls Tryz.prog 3 #[grv g an ae cn ce, grv h bn be dn de, .int .u8 (k : Int)] w (FwB w true) := by
  obtain ⟨W, hW⟩ : ∃ W, ((w.alloc (.cells #[.slice an g.ns.length cn, .slice ae g.es.length ce, .int .i64 g.nn, .int .i64 g.ne] 25)).alloc (.cells #[.slice bn h.ns.length dn, .slice be h.es.length de, .int .i64 h.nn, .int .i64 h.ne] 25)) = W := ⟨_, rfl⟩
  have p0 : Bk W w.heap.size #[.slice an g.ns.length cn, .slice ae g.es.length ce, .int .i64 g.nn, .int .i64 g.ne] 25 := by rw [← hW]; exact (Bk.new w _ _).on (fuwA _ _)
  have p1 : Bk W (w.heap.size + 1) #[.slice bn h.ns.length dn, .slice be h.es.length de, .int .i64 h.nn, .int .i64 h.ne] 25 := by rw [← hW]; exact bkw2 _ _ _ _
  have f0 : Fuw w W := by rw [← hW]; exact (fuwA w _).trans (fuwA _ _)
  have HG := Lib.hid hg
  have HH := Lib.hid hh
  have HM := Lib.hid (sml_mod hsg (by decide) (by decide))
  have HI := Lib.hid (sml_b hsg)
  have HC := Lib.hid (fun w' (hf : Fuw w w') => small_any g an ae cn ce 60 100 w' (hg.on hf))
  have HD := Lib.hid (fun w' (hf : Fuw w w') => small_any h bn be dn de 60 100 w' (hh.on hf))
  rw [hsg] at HC
  rw [hsh] at HD
  clear hg hh hsg hsh
  unfold grv at HC HD ⊢
  go_enter Tryz.func3, Tryz.ntmps3
  go_upto_region 1 with fail
  clear hW
  have c0 : W.cell? ⟨w.heap.size, 0, none⟩ = some (.slice an g.ns.length cn) := p0.c 0
  have c1 : W.cell? ⟨w.heap.size, 1, none⟩ = some (.slice ae g.es.length ce) := p0.c 1
  have c2 : W.cell? ⟨w.heap.size, 2, none⟩ = some (.int .i64 g.nn) := p0.c 2
  have c3 : W.cell? ⟨w.heap.size, 3, none⟩ = some (.int .i64 g.ne) := p0.c 3
  have F0 := Lib.hid f0
  have P0 := Lib.hid p0
  have P1 := Lib.hid p1
  clear p0 p1 f0
  go_wp2_with fail
  go_at_call 4; refine (HC.out _ F0.out).mono ?_; rintro e0 w0 ⟨rfl, f1⟩
  have F1 := Lib.hid (F0.out.trans f1)
  have Q0 := Lib.hid (P0.out.on f1)
  have Q1 := Lib.hid (P1.out.on f1)
  clear f1 c0 c1 c2 c3 F0 P0 P1 HC
  have d0 : w0.cell? ⟨w.heap.size + 1, 0, none⟩ = some (.slice bn h.ns.length dn) := Q1.out.c 0
  have d1 : w0.cell? ⟨w.heap.size + 1, 1, none⟩ = some (.slice be h.es.length de) := Q1.out.c 1
  have d2 : w0.cell? ⟨w.heap.size + 1, 2, none⟩ = some (.int .i64 h.nn) := Q1.out.c 2
  have d3 : w0.cell? ⟨w.heap.size + 1, 3, none⟩ = some (.int .i64 h.ne) := Q1.out.c 3
  go_wp2_with fail
  go_at_call 4; refine (HD.out _ F1.out).mono ?_; rintro e1 w1 ⟨rfl, f2⟩
  have F2 := Lib.hid (F1.out.trans f2)
  have R0 := Lib.hid (Q0.out.on f2)
  have R1 := Lib.hid (Q1.out.on f2)
  clear f2 d0 d1 d2 d3 F1 Q0 Q1 HD
  have c0 : w1.cell? ⟨w.heap.size, 0, none⟩ = some (.slice an g.ns.length cn) := R0.out.c 0
  have c1 : w1.cell? ⟨w.heap.size, 1, none⟩ = some (.slice ae g.es.length ce) := R0.out.c 1
  have c2 : w1.cell? ⟨w.heap.size, 2, none⟩ = some (.int .i64 g.nn) := R0.out.c 2
  have c3 : w1.cell? ⟨w.heap.size, 3, none⟩ = some (.int .i64 g.ne) := R0.out.c 3
  have HY := Lib.hid (rcopy_any g an ae cn ce w1 (HG.out.on F2.out) HM.out)
  unfold grv at HY
  go_wp2_with fail
  go_at_call 6; refine HY.out.mono ?_; rintro e2 w2 ⟨s1, xn, xe, yn, ye, wn, rfl, hs1, hs2, hON, hs3, hKK, hOE, f3⟩
  have HON := Lib.hid hON
  have HKK := Lib.hid hKK
  have HOE := Lib.hid hOE
  have F3 := Lib.hid (F2.out.trans f3)
  have S0 := Lib.hid (R0.out.on f3)
  have S1 := Lib.hid (R1.out.on f3)
  have HS := Lib.hid (And.intro hs1 (And.intro hs2 hs3))
  have HF2 := Lib.hid F2.out.size
  have HZ1 := Lib.hid (bk_lt R1.out)
  clear hON hKK hOE f3 hs1 hs2 hs3 c0 c1 c2 c3 HY R0 R1 F2
  unfold grv
  go_upto_region 4 with fail
  obtain ⟨W2, hW2⟩ : ∃ W2, (w2.alloc (.cells #[.slice xn g.ns.length yn, .slice xe g.es.length ye, .int .i64 g.nn, .int .i64 g.ne] 25)) = W2 := ⟨_, rfl⟩
  have p2 : Bk W2 w2.heap.size #[.slice xn g.ns.length yn, .slice xe g.es.length ye, .int .i64 g.nn, .int .i64 g.ne] 25 := by rw [← hW2]; exact Bk.new _ _ _
  have fA : Fuw w2 W2 := by rw [← hW2]; exact fuwA _ _
  rw [hW2]
  clear hW2
  have F4 := Lib.hid (F3.out.trans fA)
  obtain ⟨ps, hps, hOs⟩ := HON.out
  have HPS := Lib.hid hps
  have HPL := Lib.hid (show ps.length = g.ns.length from by rw [hps, List.length_map])
  have HPM := Lib.hid (show ∀ p ∈ ps, p.1 ∈ g.ns from fun p hp => by rw [hps]; exact List.mem_map_of_mem hp)
  have HPR := Lib.hid (show ∀ p ∈ ps, p.2.2.2 ≤ w2.heap.size from fun p hp => by have := (hOs.rng p hp).2.1; have := HS.out; omega)
  have HBL := Lib.hid (show ∀ b, (Value.slice xn g.ns.length yn).ownBlock = some b → s1 ≤ b ∧ b < w2.heap.size from fun b hb => by have := hOs.own.lt b hb; have := HS.out; omega)
  have HNS := Lib.hid (show OwnNs s1 (.slice xn g.ns.length yn) W2 ps from ownns_keep hOs (by have := HS.out; have := fA.size; omega) (fun b k1 k2 => by rw [Below.block fA b (by have := HS.out; omega)]; exact HKK.out b k1 k2))
  have HN2 := Lib.hid (show OwnN s1 g.ns (.slice xn g.ns.length yn) W2 from ⟨ps, hps, HNS.out⟩)
  clear hps hOs
  have hIN : ∀ x ∈ g.ns, I64 x.id := HG.out.n.ins (I := LN.I) (fun _ _ _ h => NC_in h)
  have hIE : ∀ x ∈ g.es, LE.I x := HG.out.e.ins (I := LE.I) (fun _ _ _ h => EC_in h)
  have hgc : GIn W2 g xn xe yn ye := ⟨ownn_sl2 HN2.out hIN, slE_on fA (ownl_sl HOE.out hIE), HG.out.i1, HG.out.i2⟩
  have HIN := Lib.hid hIN
  have HIE := Lib.hid hIE
  have C1 := Lib.hid (fun w' (ff : Fuw W2 w') => lsame_any g h an ae bn be cn ce dn de w' (HG.out.on (F4.out.trans ff)) (HH.out.on (F4.out.trans ff)))
  have C2 := Lib.hid (fun w' (ff : Fuw W2 w') => rsame_any g h an ae bn be cn ce dn de w' (HG.out.on (F4.out.trans ff)) (HH.out.on (F4.out.trans ff)))
  have C3 := Lib.hid (fun w' (ff : Fuw W2 w') => lsame_any g g an ae xn xe cn ce yn ye w' (HG.out.on (F4.out.trans ff)) (hgc.on ff))
  have C4 := Lib.hid (fun w' (ff : Fuw W2 w') => lsame_any g g xn xe an ae yn ye cn ce w' (hgc.on ff) (HG.out.on (F4.out.trans ff)))
  have HSS := Lib.hid (fun w' (ff : Fuw W2 w') => (show (w'.cell? ⟨w.heap.size, 0, none⟩ = some (.slice an g.ns.length cn) ∧ w'.cell? ⟨w.heap.size, 1, none⟩ = some (.slice ae g.es.length ce) ∧ w'.cell? ⟨w.heap.size, 2, none⟩ = some (.int .i64 g.nn) ∧ w'.cell? ⟨w.heap.size, 3, none⟩ = some (.int .i64 g.ne)) ∧ (w'.cell? ⟨w.heap.size + 1, 0, none⟩ = some (.slice bn h.ns.length dn) ∧ w'.cell? ⟨w.heap.size + 1, 1, none⟩ = some (.slice be h.es.length de) ∧ w'.cell? ⟨w.heap.size + 1, 2, none⟩ = some (.int .i64 h.nn) ∧ w'.cell? ⟨w.heap.size + 1, 3, none⟩ = some (.int .i64 h.ne)) ∧ (w'.cell? ⟨w2.heap.size, 0, none⟩ = some (.slice xn g.ns.length yn) ∧ w'.cell? ⟨w2.heap.size, 1, none⟩ = some (.slice xe g.es.length ye) ∧ w'.cell? ⟨w2.heap.size, 2, none⟩ = some (.int .i64 g.nn) ∧ w'.cell? ⟨w2.heap.size, 3, none⟩ = some (.int .i64 g.ne)) from
    ⟨⟨(S0.out.on (fA.trans ff)).c 0, (S0.out.on (fA.trans ff)).c 1, (S0.out.on (fA.trans ff)).c 2, (S0.out.on (fA.trans ff)).c 3⟩, ⟨(S1.out.on (fA.trans ff)).c 0, (S1.out.on (fA.trans ff)).c 1, (S1.out.on (fA.trans ff)).c 2, (S1.out.on (fA.trans ff)).c 3⟩, (p2.on ff).c 0, (p2.on ff).c 1, (p2.on ff).c 2, (p2.on ff).c 3⟩))
  rw [samG_self g] at C3 C4
  generalize samG g h = r at *
  have hr : (r == r) = true := by simp
  have hr' : (r != r) = false := by simp
  have T0 := Lib.hid (S0.out.on fA)
  have HBc := Lib.hid (show w.heap.size + 1 < w2.heap.size ∧ w2.heap.size < W2.heap.size ∧ s1 ≤ w2.heap.size ∧ w.heap.size + 1 < s1 from by have := bk_lt S1.out; have := bk_lt p2; have := HS.out; have := HF2.out; have := HZ1.out; omega)
  have P2 := Lib.hid p2
  clear fA hgc hIN hIE p2 HOE HON HKK HS HF2 S0 S1 F3 HZ1
  have ff : Fuw W2 W2.drew := Fuw.drew (Fuw.refl W2)
  go_region_held3 (fun w' => (w'.cell? ⟨w.heap.size, 0, none⟩ = some (.slice an g.ns.length cn) ∧ w'.cell? ⟨w.heap.size, 1, none⟩ = some (.slice ae g.es.length ce) ∧ w'.cell? ⟨w.heap.size, 2, none⟩ = some (.int .i64 g.nn) ∧ w'.cell? ⟨w.heap.size, 3, none⟩ = some (.int .i64 g.ne)) ∧ (w'.cell? ⟨w.heap.size + 1, 0, none⟩ = some (.slice bn h.ns.length dn) ∧ w'.cell? ⟨w.heap.size + 1, 1, none⟩ = some (.slice be h.es.length de) ∧ w'.cell? ⟨w.heap.size + 1, 2, none⟩ = some (.int .i64 h.nn) ∧ w'.cell? ⟨w.heap.size + 1, 3, none⟩ = some (.int .i64 h.ne)) ∧ (w'.cell? ⟨w2.heap.size, 0, none⟩ = some (.slice xn g.ns.length yn) ∧ w'.cell? ⟨w2.heap.size, 1, none⟩ = some (.slice xe g.es.length ye) ∧ w'.cell? ⟨w2.heap.size, 2, none⟩ = some (.int .i64 g.nn) ∧ w'.cell? ⟨w2.heap.size, 3, none⟩ = some (.int .i64 g.ne)))
    (first | (with_reducible exact HSS.out _ ff))
    (first
      | (go_at_call 7; have hj := j3; refine (C4.out _ ff).mono ?_; rintro g4 v4 ⟨rfl, j4⟩; replace ff := ff.trans j4)
      | (go_at_call 7; have hj := j1; refine (C3.out _ ff).mono ?_; rintro g3 v3 ⟨rfl, j3⟩; replace ff := ff.trans j3)
      | (go_at_call 7; refine (C1.out _ ff).mono ?_; rintro g1 v1 ⟨rfl, j1⟩; replace ff := ff.trans j1)
      | (go_at_call 8; refine (C2.out _ ff).mono ?_; rintro g2 v2 ⟨rfl, j2⟩; replace ff := ff.trans j2))
  rename_i hH
  clear hH
  rename_i hJ
  clear hJ C1 C2 C3 C4 HSS hr hr'
  have TV := Lib.hid (T0.out.on ff)
  have P3 := Lib.hid (P2.out.on ff)
  have FV := Lib.hid (F4.out.trans ff)
  have HOV := Lib.hid (ownns_on HNS.out ff)
  have HZ4 := Lib.hid ff.size
  clear T0 P2 F4 HNS
  rcases Nat.eq_zero_or_pos g.ns.length with hz | hp
  · have hpI : ¬ 0 < (g.ns.length : Int) := by omega
    have PV := P3
    have e0 : v4.cell? ⟨w2.heap.size, 0, none⟩ = some (.slice xn g.ns.length yn) := PV.out.c 0
    clear hz P3 HOV HPS HPL HPM HPR HBL HN2
    have c0 : v4.cell? ⟨w.heap.size, 0, none⟩ = some (.slice an g.ns.length cn) := TV.out.c 0
    have c1 : v4.cell? ⟨w.heap.size, 1, none⟩ = some (.slice ae g.es.length ce) := TV.out.c 1
    have c2 : v4.cell? ⟨w.heap.size, 2, none⟩ = some (.int .i64 g.nn) := TV.out.c 2
    have c3 : v4.cell? ⟨w.heap.size, 3, none⟩ = some (.int .i64 g.ne) := TV.out.c 3
    have HY := Lib.hid (rcopy_any g an ae cn ce v4 (HG.out.on FV.out) HM.out)
    unfold grv at HY
    go_wp2_with fail
    go_at_call 6; refine HY.out.mono ?_; rintro e6 w6 ⟨s2, zn, ze, un, ue, wm, rfl, hs1, hs2, hON2, hs3, hKK2, hOE2, f6⟩
    unfold grv
    have b6 := PV.out.on f6
    have x0 := b6.c 0
    have x1 := b6.c 1
    have x2 := b6.c 2
    have x3 := b6.c 3
    have y0 := b6.f 0
    have y1 := b6.f 1
    have y2 := b6.f 2
    have y3 := b6.f 3
    have HB6 := Lib.hid b6
    have HX := Lib.hid (And.intro hs1 (And.intro hs2 hs3))
    have HVS := Lib.hid (bk_lt PV.out)
    have HT6 := Lib.hid (TV.out.on f6)
    have HF6 := Lib.hid (FV.out.trans f6)
    have HOE := Lib.hid hOE2
    have HON := Lib.hid hON2
    have HKK := Lib.hid hKK2
    clear hs1 hs2 hs3 hON2 hKK2 hOE2 f6 b6 c0 c1 c2 c3 HY
    go_upto_region 12 with fail
    obtain ⟨V6, hV6⟩ : ∃ V6, V6 = ((((w6.setCell ⟨w2.heap.size, 0, none⟩ (.slice zn g.ns.length un)).setCell ⟨w2.heap.size, 1, none⟩ (.slice ze g.es.length ue)).setCell ⟨w2.heap.size, 2, none⟩ (.int .i64 g.nn)).setCell ⟨w2.heap.size, 3, none⟩ (.int .i64 g.ne)) := ⟨_, rfl⟩
    rw [← hV6]
    have PC := Lib.hid (show Bk V6 w2.heap.size #[.slice zn g.ns.length un, .slice ze g.es.length ue, .int .i64 g.nn, .int .i64 g.ne] 25 from by rw [hV6]; exact (((HB6.out.set_ 0 _).set_ 1 _).set_ 2 _).set_ 3 _)
    have hne : w.heap.size ≠ w2.heap.size := by have := HBc.out; omega
    have hle : w.heap.size ≤ w2.heap.size := by have := HBc.out; omega
    have TC := Lib.hid (show Bk V6 w.heap.size #[.slice an g.ns.length cn, .slice ae g.es.length ce, .int .i64 g.nn, .int .i64 g.ne] 25 from by rw [hV6]; exact (((HT6.out.far hne _).far hne _).far hne _).far hne _)
    have FC := Lib.hid (show Fuw w V6 from by rw [hV6]; exact fuwS (fuwS (fuwS (fuwS HF6.out hle) hle) hle) hle)
    have HB2 := Lib.hid (show w2.heap.size < s2 ∧ s2 ≤ wm.heap.size ∧ wm.heap.size ≤ V6.heap.size from by have := HX.out; have := HVS.out; rw [hV6]; simp; omega)
    have HKV := Lib.hid (show ∀ b, s2 ≤ b → b < wm.heap.size → V6.heap[b]? = wm.heap[b]? from fun b k1 k2 => by
      have := HB2.out
      rw [hV6, heap_far (by omega), heap_far (by omega), heap_far (by omega), heap_far (by omega)]; exact HKK.out b k1 k2)
    have HE6 := Lib.hid (show OwnL LE 35 wm.heap.size g.es (.slice ze g.es.length ue) V6 from by
      have := HB2.out
      rw [hV6]; exact ownl_far (ownl_far (ownl_far (ownl_far HOE.out (by omega) _) (by omega) _) (by omega) _) (by omega) _)
    have HNE := Lib.hid hne
    have HLE := Lib.hid hle
    clear hV6 hne hle HB6 HX HVS HT6 HF6 HOE HKK x0 x1 x2 x3 y0 y1 y2 y3 TV PV FV
    have c1 : V6.cell? ⟨w2.heap.size, 1, none⟩ = some (.slice ze g.es.length ue) := PC.out.c 1
    rcases Nat.eq_zero_or_pos g.es.length with hez | hep
    · have heI : ¬ 0 < (g.es.length : Int) := by omega
      clear hez
      have c3 : V6.cell? ⟨w2.heap.size, 3, none⟩ = some (.int .i64 g.ne) := PC.out.c 3
      have f3 := PC.out.f 3
      go_upto_region 15 with fail
      clear c1 c3 f3
      obtain ⟨y, hy⟩ : ∃ y, y = wrap64 (g.ne - 1) := ⟨_, rfl⟩
      rw [← hy]
      have hyI := w64_pred HG.out.i2
      rw [← hy] at hyI
      clear hy
      obtain ⟨V7, hV7⟩ : ∃ V7, V7 = V6.setCell ⟨w2.heap.size, 3, none⟩ (.int .i64 y) := ⟨_, rfl⟩
      rw [← hV7]
      have PF := Lib.hid (show Bk V7 w2.heap.size #[.slice zn g.ns.length un, .slice ze g.es.length ue, .int .i64 g.nn, .int .i64 y] 25 from by rw [hV7]; exact PC.out.set_ 3 _)
      have TF := Lib.hid (show Bk V7 w.heap.size #[.slice an g.ns.length cn, .slice ae g.es.length ce, .int .i64 g.nn, .int .i64 g.ne] 25 from by rw [hV7]; exact TC.out.far HNE.out _)
      have FF := Lib.hid (show Fuw w V7 from by rw [hV7]; exact fuwS FC.out HLE.out)
      have HLS := Lib.hid (show Calls Tryz.prog 7 #[.agg #[.slice an g.ns.length cn, .slice ae g.es.length ce, .int .i64 g.nn, .int .i64 g.ne], .agg #[.slice zn g.ns.length un, .slice ze g.es.length ue, .int .i64 g.nn, .int .i64 y]] V7 (FwB V7 false) from by
        have hN7 : OwnN s2 g.ns (.slice zn g.ns.length un) V7 := by
          obtain ⟨qs, e, q⟩ := HON.out
          have := HB2.out
          exact ⟨qs, e, ownns_keep q (by rw [hV7]; simp; omega) (fun b k1 k2 => by rw [hV7, heap_far (by omega)]; exact HKV.out b k1 k2)⟩
        have hE7 : OwnL LE 35 wm.heap.size g.es (.slice ze g.es.length ue) V7 := by
          have := HB2.out
          rw [hV7]; exact ownl_far HE6.out (by omega) _
        have q := lsame_any g { g with ne := y } an ae zn ze cn ce un ue V7 (HG.out.on FF.out) ⟨ownn_sl2 hN7 HIN.out, ownl_sl hE7 HIE.out, HG.out.i1, hyI.1⟩
        rw [samG_ne g y hyI.2] at q
        exact q)
      clear hV7 hyI
      have d0 := PF.out.c 0
      have d1 := PF.out.c 1
      have d2 := PF.out.c 2
      have d3 := PF.out.c 3
      have g0 := TF.out.c 0
      have g1 := TF.out.c 1
      have g2 := TF.out.c 2
      have g3 := TF.out.c 3
      clear HNE HLE HB2 HKV HE6 HON HBc PC TC FC PF TF
      go_wp2_with fail
      go_at_call 7; refine HLS.out.mono ?_; rintro e7 w7 ⟨rfl, f7⟩
      have F7 := Lib.hid (FF.out.trans f7)
      clear f7 d0 d1 d2 d3 g0 g1 g2 g3 HLS FF
      go_wp2_with fail
      go_at_call 5; refine (alive_any _).mono ?_; rintro e8 w8 ⟨rfl, f8⟩
      have F8 := Lib.hid (F7.out.trans f8)
      clear f8 F7
      go_wp2
      go_ret
      exact ⟨rfl, F8.out⟩
    · have heI : 0 < (g.es.length : Int) := by omega
      go_upto_region 13 with fail
      have hj0 := Nat.mod_lt k hep
      have hr1 : (k : Int) % (g.es.length : Int) = ((k % g.es.length : Nat) : Int) := rfl
      have hr2 : Int.tmod (k : Int) (g.es.length : Int) = ((k % g.es.length : Nat) : Int) := rfl
      generalize k % g.es.length = j at *
      obtain ⟨Be, rfl⟩ : ∃ Be, ze = some ⟨Be, 0, none⟩ := by
        have hn : g.es.length ≠ 0 := by omega
        obtain ⟨qs, e1, e2, -⟩ := HE6.out
        rcases e2.2 with ⟨-, h0⟩ | ⟨g0, cap, cur, e, _⟩
        · exfalso; rw [e1, List.length_map] at hn; exact hn h0
        · injection e with e1 e2 e3; exact ⟨_, e1⟩
      have hBe : wm.heap.size ≤ Be ∧ Be < V6.heap.size := by
        obtain ⟨qs, e1, e2, -⟩ := HE6.out
        exact e2.lt Be rfl
      have hSe := ownl_sl HE6.out HIE.out
      obtain ⟨b', o', e', hEC⟩ := hSe.get hj0
      obtain ⟨tt, htt⟩ : ∃ tt, tt = g.es[j].to := ⟨_, rfl⟩
      have ct : V6.cell? ⟨Be, j * 5 + 2, none⟩ = some (.int .i64 tt) := by
        rw [htt]
        have q := hEC.2.2.2.2.2.2.1
        cases e'
        rwa [Nat.zero_add] at q
      have fr : V6.frozen? ⟨Be, j * 5 + 2, none⟩ = false := by
        obtain ⟨qs, e1, e2, -⟩ := HE6.out
        exact own_froz e2 _
      have HIT := Lib.hid (show I64 tt from by rw [htt]; exact hEC.2.2.1)
      clear hEC hSe e'
      have HJ := Lib.hid hj0
      have HBE := Lib.hid hBe
      have HTT := Lib.hid htt
      have hjI : (j : Int) < (g.es.length : Int) := by omega
      clear htt hBe
      have hN7 := Lib.hid HB2.out
      go_region
      all_goals
        clear ct fr hr1 hr2 hjI
        obtain ⟨y, hy⟩ : ∃ y, y = wrap64 (tt + 1) := ⟨_, rfl⟩
        rw [← hy]
        have hyI := w64_succ HIT.out
        rw [← hy] at hyI
        clear hy
        obtain ⟨V7, hV7⟩ : ∃ V7, V7 = (V6.setCell ⟨Be, j * 5 + 2, none⟩ (.int .i64 y)).drew := ⟨_, rfl⟩
        rw [← hV7]
        have hb7 : ∀ b, b ≠ Be → V7.heap[b]? = V6.heap[b]? := fun b hb => by
          have q : (V6.setCell ⟨Be, j * 5 + 2, none⟩ (.int .i64 y)).heap[b]? = V6.heap[b]? := heap_far (Ne.symm hb)
          rw [hV7]; exact q
        have PF := Lib.hid (show Bk V7 w2.heap.size #[.slice zn g.ns.length un, .slice (some ⟨Be, 0, none⟩) g.es.length ue, .int .i64 g.nn, .int .i64 g.ne] 25 from (hb7 _ (by have := HB2.out; have := HBE.out; omega)).trans PC.out)
        have TF := Lib.hid (show Bk V7 w.heap.size #[.slice an g.ns.length cn, .slice ae g.es.length ce, .int .i64 g.nn, .int .i64 g.ne] 25 from (hb7 _ (by have := HB2.out; have := HBE.out; have := HLE.out; omega)).trans TC.out)
        have FF := Lib.hid (show Fuw w V7 from by rw [hV7]; exact (fuwS FC.out (by have := HB2.out; have := HBE.out; have := HLE.out; omega)).drew)
        have HLS := Lib.hid (show Calls Tryz.prog 7 #[.agg #[.slice an g.ns.length cn, .slice ae g.es.length ce, .int .i64 g.nn, .int .i64 g.ne], .agg #[.slice zn g.ns.length un, .slice (some ⟨Be, 0, none⟩) g.es.length ue, .int .i64 g.nn, .int .i64 g.ne]] V7 (FwB V7 false) from by
          have hN7 : OwnN s2 g.ns (.slice zn g.ns.length un) V7 := by
            obtain ⟨qs, e, q⟩ := HON.out
            have := HB2.out
            have := HBE.out
            exact ⟨qs, e, ownns_keep q (by rw [hV7]; simp; omega) (fun b k1 k2 => by rw [hb7 b (by omega)]; exact HKV.out b k1 k2)⟩
          have hE7 := chg_edges HE6.out HIE.out j HJ.out y hyI.1
          have hE8 : SlE V7 (some ⟨Be, 0, none⟩) (g.es.set j { g.es[j] with «to» := y }) ue := by
            rw [hV7]; exact slE_on (Fuw.drew (Fuw.refl _)) hE7
          have hne : g.es[j].to ≠ ({ g.es[j] with «to» := y } : Ed).to := fun q => hyI.2 (HTT.out.trans q)
          have q := lsame_any g { g with es := g.es.set j { g.es[j] with «to» := y } } an ae zn (some ⟨Be, 0, none⟩) cn ce un ue V7 (HG.out.on FF.out) ⟨ownn_sl2 hN7 HIN.out, hE8, HG.out.i1, HG.out.i2⟩
          rw [samG_to g j _ HJ.out hne] at q
          have e : (g.es.set j { g.es[j] with «to» := y }).length = g.es.length := by rw [List.length_set]
          generalize g.es.set j { g.es[j] with «to» := y } = L at *
          simp only [e] at q
          exact q)
        clear hV7 hyI hb7 HBE HJ HTT HIT
        have d0 := PF.out.c 0
        have d1 := PF.out.c 1
        have d2 := PF.out.c 2
        have d3 := PF.out.c 3
        have g0 := TF.out.c 0
        have g1 := TF.out.c 1
        have g2 := TF.out.c 2
        have g3 := TF.out.c 3
        clear HNE HLE HB2 hN7 HKV HE6 HON HBc PC TC FC PF TF
        go_wp2_with fail
        go_at_call 7; refine HLS.out.mono ?_; rintro e7 w7 ⟨rfl, f7⟩
        have F7 := Lib.hid (FF.out.trans f7)
        clear f7 d0 d1 d2 d3 g0 g1 g2 g3 HLS FF
        go_wp2_with fail
        go_at_call 5; refine (alive_any _).mono ?_; rintro e8 w8 ⟨rfl, f8⟩
        have F8 := Lib.hid (F7.out.trans f8)
        clear f8 F7
        go_wp2
        go_ret
        exact ⟨rfl, F8.out⟩
  · have hpI : 0 < (g.ns.length : Int) := by omega
    have hkI : 0 ≤ (k : Int) := by omega
    have hkJ : (k : Int) ≤ 255 := by omega
    have e0 : v4.cell? ⟨w2.heap.size, 0, none⟩ = some (.slice xn g.ns.length yn) := P3.out.c 0
    go_upto_region 8 with fail
    clear e0
    rw [show ((k : Int) % (g.ns.length : Int)) = ((k % g.ns.length : Nat) : Int) from rfl]
    have hi0 := Nat.mod_lt k hp
    generalize k % g.ns.length = i at *
    obtain ⟨iS, hiS, hS0, hS1, hS2⟩ := info_parts infoS
    obtain ⟨B, rfl⟩ : ∃ B, xn = some ⟨B, 0, none⟩ := by
      rcases HOV.out.own.2 with ⟨e, h0⟩ | ⟨g0, cap, cur, e, _⟩
      · exfalso; rw [HPL.out] at h0; omega
      · injection e with e1 e2 e3; exact ⟨_, e1⟩
    have hip : i < ps.length := by rw [HPL.out]; exact hi0
    have hpi := List.getElem_mem hip
    obtain ⟨hSl, hPl, hOw⟩ := HOV.out.ins ps[i] hpi v4 fun _ _ _ => rfl
    have HBi := Lib.hid (own_in (HOV.out.ins ps[i] hpi))
    have hr1 := HOV.out.rng ps[i] hpi
    have hr2 := HPR.out ps[i] hpi
    have hBB := hr1.2.2 B rfl
    have hBl := HBL.out B rfl
    have hown0 := HOV.out.own
    rw [← HPL.out] at hown0
    have hcell := hown0.cellAt (i * 3 + 1) (show i * 3 + 1 < ps.length * 3 by omega)
    replace hcell := hcell.trans (LNi.cs_get ps i 1 hip (by decide))
    obtain ⟨nl, hnl⟩ : ∃ nl, nl = ps[i].1.ls.length := ⟨_, rfl⟩
    obtain ⟨al, hal⟩ : ∃ al, al = ps[i].2.1.1.1 := ⟨_, rfl⟩
    obtain ⟨cl, hcl⟩ : ∃ cl, cl = ps[i].2.1.1.2 := ⟨_, rfl⟩
    obtain ⟨lo, hlo⟩ : ∃ lo, lo = ps[i].2.2.1 := ⟨_, rfl⟩
    obtain ⟨LS, hLS⟩ : ∃ LS, LS = sC ps[i].1.ls := ⟨_, rfl⟩
    obtain ⟨ob, hob⟩ : ∃ ob, ob = (Value.slice al nl cl).ownBlock := ⟨_, rfl⟩
    have HOW := Lib.hid (show v4.ownsRow s1 9 1 (.slice al nl cl) nl LS from by rw [hal, hnl, hcl, hLS]; exact own_low hOw hr1.1)
    have hobr : ∀ b, some b = ob → lo ≤ b ∧ b < ps[i].2.2.2 := fun b hb => by
      have k := HBi.out b
      rw [← hal, ← hcl, ← hnl, ← hob] at k
      have := k hb.symm
      rw [hlo]; exact this
    have HLO := Lib.hid (show w.heap.size + 1 < lo ∧ w.heap.size + 1 < s1 ∧ s1 ≤ v4.heap.size from by have := HBc.out; have := hr1.1; have := HZ4.out; rw [hlo]; omega)
    have HNL := Lib.hid (show nl ≤ 1000000 from by rw [hnl]; exact (HM.out.nl _ (HPM.out _ hpi)).1)
    have NC := Lib.hid (show some w2.heap.size ≠ ob from fun q => by have := hobr _ q; omega)
    have NA := Lib.hid (show some w.heap.size ≠ ob from fun q => by have := hobr _ q; have := HLO.out; omega)
    have NB := Lib.hid (show some B ≠ ob from fun q => by have := hobr _ q; rw [hlo] at this; omega)
    have HC1 := Lib.hid (show v4.cell? ⟨B, i * 3 + 1, none⟩ = some (.slice al nl cl) from by rw [hal, hcl, hnl]; exact hcell)
    have HOB := Lib.hid hob.symm
    have HCF := Lib.hid (show v4.frozen? ⟨B, i * 3 + 1, none⟩ = false from own_froz HOV.out.own (i * 3 + 1))
    have HBB := Lib.hid (show B ≠ w.heap.size ∧ B ≠ w2.heap.size from by have := HBc.out; exact ⟨by omega, by omega⟩)
    have HNN := Lib.hid hnl
    have HAA := Lib.hid hal
    have HCC := Lib.hid hcl
    clear hown0 hSl hPl hOw hr1 hr2 hBB hBl hcell hnl hal hcl hLS hob hobr HBi hpi
    clear hlo
    refine region_midB (N := 96) (S := fun σ => GsT w v4 ob B (i * 3 + 1) (nl + 1) (σ 10) (σ 13)) (U := fun σ t => GsU w2.heap.size B i g.ns.length yn al nl cl (kGs (σ 10) t)) (V := fun _ _ => True) (by kernel_rfl) (by kernel_rfl) (by kernel_rfl) ?base (fun H1 => upto_succ (n := 13) (upto_succ (n := 12) (upto_succ (n := 11) (upto_succ (n := 10) (upto_succ (n := 9) (upto_succ (n := 8) (upto_succ (n := 7) (upto_succ (n := 6) (upto_succ (n := 5) (upto_succ (n := 4) (upto_succ (n := 3) (upto_succ (n := 2) (upto_succ (n := 1) (upto_succ (n := 0) (upto_nil) ?s0) ?s1) ?s2) ?s3) ?s4) ?s5) ?s6) ?s7) ?s8) ?s9) ?s10) ?s11) ?s12) ?s13) ?fin
    case s0 =>
      refine stepB_of [13] [] [] [] H1 rfl rfl (by kernel_rfl) (by kernel_rfl) (by kernel_rfl) (by kernel_rfl) ?_
      intro σ hp hq x w5 hS hU hV hA Lv hLv K hK
      have m13 : σ 13 = false := hp 13 (by simp)
      simp only [upB_ne (show (0 : Nat) ≠ 10 by decide), m13, upB_ne (show (0 : Nat) ≠ 13 by decide)] at hS hU hK
      clear hp hq m13
      have u7 : x 7 = .pointer (some ⟨w2.heap.size, 0, none⟩) := hA 7 (by kernel_rfl)
      clear hU hV hA H1 hLv
      rw [frameD96] at hK ⊢
      simp only [u7] at hK ⊢
      refine wpOp_step rfl (fun K' hK' => ?_)
      go_simp
      exact hK' _ _ (hK _ _ hS (fun _ _ _ h => h) (fun e he => by cases he; cases σ 10 <;> exact rfl))
    case s1 =>
      refine stepB_of [13] [] [49] [] H1 rfl rfl (by kernel_rfl) (by kernel_rfl) (by kernel_rfl) (by kernel_rfl) ?_
      intro σ hp hq x w5 hS hU hV hA Lv hLv K hK
      have m13 : σ 13 = false := hp 13 (by simp)
      simp only [upB_ne (show (1 : Nat) ≠ 10 by decide), m13, upB_ne (show (1 : Nat) ≠ 13 by decide)] at hS hU hK
      clear hp hq m13
      have u49 : x 49 = .pointer (some ⟨w2.heap.size, 0, none⟩) := (by have q := hU 49 (by simp); revert q; cases σ 10 <;> exact id)
      clear hU hV hA H1 hLv
      rw [frameD96] at hK ⊢
      simp only [u49] at hK ⊢
      refine wpOp_step rfl (fun K' hK' => ?_)
      obtain ⟨hf5, hk5, -⟩ := (show Fuw w w5 ∧ Kx v4 ob w5 ∧ _ from hS)
      have q0 := (kx_bk hk5 P3.out NC.out).c 0
      go_simp
      exact hK' _ _ (hK _ _ hS (fun _ _ _ h => h) (fun e he => by cases he; cases σ 10 <;> exact rfl))
    case s2 =>
      refine stepB_of [13] [] [] [] H1 rfl rfl (by kernel_rfl) (by kernel_rfl) (by kernel_rfl) (by kernel_rfl) ?_
      intro σ hp hq x w5 hS hU hV hA Lv hLv K hK
      have m13 : σ 13 = false := hp 13 (by simp)
      simp only [upB_ne (show (2 : Nat) ≠ 10 by decide), m13, upB_ne (show (2 : Nat) ≠ 13 by decide)] at hS hU hK
      clear hp hq m13
      have u8 : x 8 = .int .i64 i := hA 8 (by kernel_rfl)
      clear hU hV hA H1 hLv
      rw [frameD96] at hK ⊢
      simp only [u8] at hK ⊢
      refine wpOp_step rfl (fun K' hK' => ?_)
      go_simp
      exact hK' _ _ (hK _ _ hS (fun _ _ _ h => h) (fun e he => by cases he; cases σ 10 <;> exact rfl))
    case s3 =>
      refine stepB_of [10, 13] [] [] [] H1 rfl rfl (by kernel_rfl) (by kernel_rfl) (by kernel_rfl) (by kernel_rfl) ?_
      intro σ hp hq x w5 hS hU hV hA Lv hLv K hK
      have m10 : σ 10 = false := hp 10 (by simp)
      have m13 : σ 13 = false := hp 13 (by simp)
      simp only [m10, upB_ne (show (3 : Nat) ≠ 10 by decide), m13, upB_ne (show (3 : Nat) ≠ 13 by decide)] at hS hU hK
      clear hp hq m10 m13
      have u7 : x 7 = .pointer (some ⟨w2.heap.size, 0, none⟩) := hA 7 (by kernel_rfl)
      clear hU hV hA H1 hLv
      rw [frameD96] at hK ⊢
      simp only [u7] at hK ⊢
      refine wpOp_step rfl (fun K' hK' => ?_)
      go_simp
      exact hK' _ _ (hK _ _ hS (fun _ _ _ h => h) (fun e he => by cases he; exact rfl))
    case s4 =>
      refine stepB_of [10, 13] [] [52] [] H1 rfl rfl (by kernel_rfl) (by kernel_rfl) (by kernel_rfl) (by kernel_rfl) ?_
      intro σ hp hq x w5 hS hU hV hA Lv hLv K hK
      have m10 : σ 10 = false := hp 10 (by simp)
      have m13 : σ 13 = false := hp 13 (by simp)
      simp only [m10, upB_ne (show (4 : Nat) ≠ 10 by decide), m13, upB_ne (show (4 : Nat) ≠ 13 by decide)] at hS hU hK
      clear hp hq m10 m13
      have u52 : x 52 = .pointer (some ⟨w2.heap.size, 0, none⟩) := hU 52 (by simp)
      clear hU hV hA H1 hLv
      rw [frameD96] at hK ⊢
      simp only [u52] at hK ⊢
      refine wpOp_step rfl (fun K' hK' => ?_)
      obtain ⟨hf5, hk5, -⟩ := (show Fuw w w5 ∧ Kx v4 ob w5 ∧ _ from hS)
      have q0 := (kx_bk hk5 P3.out NC.out).c 0
      go_simp
      exact hK' _ _ (hK _ _ hS (fun _ _ _ h => h) (fun e he => by cases he; exact rfl))
    case s5 =>
      refine stepB_of [10, 13] [] [] [] H1 rfl rfl (by kernel_rfl) (by kernel_rfl) (by kernel_rfl) (by kernel_rfl) ?_
      intro σ hp hq x w5 hS hU hV hA Lv hLv K hK
      have m10 : σ 10 = false := hp 10 (by simp)
      have m13 : σ 13 = false := hp 13 (by simp)
      simp only [m10, upB_ne (show (5 : Nat) ≠ 10 by decide), m13, upB_ne (show (5 : Nat) ≠ 13 by decide)] at hS hU hK
      clear hp hq m10 m13
      have u8 : x 8 = .int .i64 i := hA 8 (by kernel_rfl)
      clear hU hV hA H1 hLv
      rw [frameD96] at hK ⊢
      simp only [u8] at hK ⊢
      refine wpOp_step rfl (fun K' hK' => ?_)
      go_simp
      exact hK' _ _ (hK _ _ hS (fun _ _ _ h => h) (fun e he => by cases he; exact rfl))
    case s6 =>
      refine stepB_of [10, 13] [] [53, 54] [] H1 rfl rfl (by kernel_rfl) (by kernel_rfl) (by kernel_rfl) (by kernel_rfl) ?_
      intro σ hp hq x w5 hS hU hV hA Lv hLv K hK
      have m10 : σ 10 = false := hp 10 (by simp)
      have m13 : σ 13 = false := hp 13 (by simp)
      simp only [m10, upB_ne (show (6 : Nat) ≠ 10 by decide), m13, upB_ne (show (6 : Nat) ≠ 13 by decide)] at hS hU hK
      clear hp hq m10 m13
      have u53 : x 53 = .slice (some ⟨B, 0, none⟩) g.ns.length yn := hU 53 (by simp)
      have u54 : x 54 = .int .i64 i := hU 54 (by simp)
      clear hU hV hA H1 hLv
      rw [frameD96] at hK ⊢
      simp only [u53, u54] at hK ⊢
      refine wpOp_step rfl (fun K' hK' => ?_)
      go_simp
      exact hK' _ _ (hK _ _ hS (fun _ _ _ h => h) (fun e he => by cases he; exact rfl))
    case s7 =>
      refine stepB_of [10, 13] [] [55] [] H1 rfl rfl (by kernel_rfl) (by kernel_rfl) (by kernel_rfl) (by kernel_rfl) ?_
      intro σ hp hq x w5 hS hU hV hA Lv hLv K hK
      have m10 : σ 10 = false := hp 10 (by simp)
      have m13 : σ 13 = false := hp 13 (by simp)
      simp only [m10, upB_ne (show (7 : Nat) ≠ 10 by decide), m13, upB_ne (show (7 : Nat) ≠ 13 by decide)] at hS hU hK
      clear hp hq m10 m13
      have u55 : x 55 = .pointer (some ⟨B, i * 3, none⟩) := hU 55 (by simp)
      clear hU hV hA H1 hLv
      rw [frameD96] at hK ⊢
      simp only [u55] at hK ⊢
      refine wpOp_step rfl (fun K' hK' => ?_)
      go_simp
      exact hK' _ _ (hK _ _ hS (fun _ _ _ h => h) (fun e he => by cases he; exact rfl))
    case s8 =>
      refine stepB_of [10, 13] [] [56] [] H1 rfl rfl (by kernel_rfl) (by kernel_rfl) (by kernel_rfl) (by kernel_rfl) ?_
      intro σ hp hq x w5 hS hU hV hA Lv hLv K hK
      have m10 : σ 10 = false := hp 10 (by simp)
      have m13 : σ 13 = false := hp 13 (by simp)
      simp only [m10, upB_ne (show (8 : Nat) ≠ 10 by decide), m13, upB_ne (show (8 : Nat) ≠ 13 by decide)] at hS hU hK
      clear hp hq m10 m13
      have u56 : x 56 = .pointer (some ⟨B, i * 3 + 1, none⟩) := hU 56 (by simp)
      clear hU hV hA H1 hLv
      rw [frameD96] at hK ⊢
      simp only [u56] at hK ⊢
      refine wpOp_step rfl (fun K' hK' => ?_)
      obtain ⟨hf5, hk5, -⟩ := (show Fuw w w5 ∧ Kx v4 ob w5 ∧ _ from hS)
      have q0 := kx_cell hk5 HC1.out NB.out
      go_simp
      exact hK' _ _ (hK _ _ hS (fun _ _ _ h => h) (fun e he => by cases he; exact rfl))
    case s9 =>
      refine stepB_of [10, 13] [] [] [] H1 rfl rfl (by kernel_rfl) (by kernel_rfl) (by kernel_rfl) (by kernel_rfl) ?_
      intro σ hp hq x w5 hS hU hV hA Lv hLv K hK
      have m10 : σ 10 = false := hp 10 (by simp)
      have m13 : σ 13 = false := hp 13 (by simp)
      simp only [m10, upB_ne (show (9 : Nat) ≠ 10 by decide), m13, upB_ne (show (9 : Nat) ≠ 13 by decide)] at hS hU hK
      clear hp hq m10 m13
      clear hU hV hA H1 hLv
      rw [frameD96] at hK ⊢
      refine wpOp_step rfl (fun K' hK' => ?_)
      obtain ⟨hf5, hk5, hp5⟩ := (show Fuw w w5 ∧ Kx v4 ob w5 ∧ (false = false → Fuw v4 w5) from hS)
      have hz5 := hp5 rfl
      go_simp
      exact hK' _ _ (hK _ _ (show GsT w v4 ob B (i * 3 + 1) (nl + 1) false false _ from ⟨hf5.alloc _, kx_of (hz5.alloc _), fun _ => hz5.alloc _⟩) (fun _ _ _ h => gsu_on (fuwA _ _) _ _ h) (fun e he => by cases he; exact ⟨_, rfl, Bk.new _ _ _⟩))
    case s10 =>
      refine stepB_of [10, 13] [] [57, 58] [] H1 rfl rfl (by kernel_rfl) (by kernel_rfl) (by kernel_rfl) (by kernel_rfl) ?_
      intro σ hp hq x w5 hS hU hV hA Lv hLv K hK
      have m10 : σ 10 = false := hp 10 (by simp)
      have m13 : σ 13 = false := hp 13 (by simp)
      simp only [m10, upB_eq, m13, upB_ne (show (10 : Nat) ≠ 13 by decide)] at hS hU hK
      clear hp hq m10 m13
      have u57 : x 57 = .slice al nl cl := hU 57 (by simp)
      obtain ⟨Bz, u58, hBz⟩ : ∃ Bz, x 58 = .slice (some ⟨Bz, 0, none⟩) 1 1 ∧ Bk w5 Bz #[.string ⟨#[90]⟩] 9 := hU 58 (by simp)
      clear hU hV hA H1
      rw [frameD96] at hK ⊢
      simp only [u57, u58] at hK ⊢
      obtain ⟨hf5, hk5, hp5⟩ := (show Fuw w w5 ∧ Kx v4 ob w5 ∧ (false = false → Fuw v4 w5) from hS)
      have hz5 := hp5 rfl
      have hst := hz5.size
      have hlo := HLO.out
      have hnl := HNL.out
      refine wpOp_append w5 rfl rfl (.tmp 57) (.tmp 58) 30 rfl s1 9 iS _ 1 16 Tryz.underlying30 hiS hS0 hS1 hS2 rfl (by decide) _ nl LS rfl (own_on HOW.out hz5) ⟨Bz, 0, none⟩ 1 1 [.string ⟨#[90]⟩] rfl rfl (World.news_of_block hBz) one_Z (by unfold maxLen; omega) (by omega) (by omega) ?_
      intro v3 w3 hown3 hgrow hat
      obtain ⟨a3, k3, rfl⟩ := own_slice hown3
      exact hK _ _ (show GsT w v4 ob B (i * 3 + 1) (nl + 1) true false _ from ⟨Below.grown hf5 hgrow hf5.size (fun k hk => Nat.le_trans (by omega) (HOW.out.lt k hk).1), ⟨Nat.le_trans hst hgrow.size, fun b hb hn => (hgrow.block b (by omega) (HOB.out ▸ hn)).trans (Below.block hz5 b hb)⟩, fun q => by cases q⟩) (fun t u _ h => gsu_app t u h) (fun e he => by cases he; exact ⟨a3, k3, rfl⟩)
    case s11 =>
      refine stepB_of [13] [] [50, 51] [] H1 rfl rfl (by kernel_rfl) (by kernel_rfl) (by kernel_rfl) (by kernel_rfl) ?_
      intro σ hp hq x w5 hS hU hV hA Lv hLv K hK
      have m13 : σ 13 = false := hp 13 (by simp)
      simp only [upB_ne (show (11 : Nat) ≠ 10 by decide), m13, upB_ne (show (11 : Nat) ≠ 13 by decide)] at hS hU hK
      clear hp hq m13
      have u50 : x 50 = .slice (some ⟨B, 0, none⟩) g.ns.length yn := (by have q := hU 50 (by simp); revert q; cases σ 10 <;> exact id)
      have u51 : x 51 = .int .i64 i := (by have q := hU 51 (by simp); revert q; cases σ 10 <;> exact id)
      clear hU hV hA H1 hLv
      rw [frameD96] at hK ⊢
      simp only [u50, u51] at hK ⊢
      refine wpOp_step rfl (fun K' hK' => ?_)
      go_simp
      exact hK' _ _ (hK _ _ hS (fun _ _ _ h => h) (fun e he => by cases he; cases σ 10 <;> exact rfl))
    case s12 =>
      refine stepB_of [13] [] [60] [] H1 rfl rfl (by kernel_rfl) (by kernel_rfl) (by kernel_rfl) (by kernel_rfl) ?_
      intro σ hp hq x w5 hS hU hV hA Lv hLv K hK
      have m13 : σ 13 = false := hp 13 (by simp)
      simp only [upB_ne (show (12 : Nat) ≠ 10 by decide), m13, upB_ne (show (12 : Nat) ≠ 13 by decide)] at hS hU hK
      clear hp hq m13
      have u60 : x 60 = .pointer (some ⟨B, i * 3, none⟩) := (by have q := hU 60 (by simp); revert q; cases σ 10 <;> exact id)
      clear hU hV hA H1 hLv
      rw [frameD96] at hK ⊢
      simp only [u60] at hK ⊢
      refine wpOp_step rfl (fun K' hK' => ?_)
      go_simp
      exact hK' _ _ (hK _ _ hS (fun _ _ _ h => h) (fun e he => by cases he; cases σ 10 <;> exact rfl))
    case s13 =>
      refine stepB_of [13] [10] [59, 61] [] H1 rfl rfl (by kernel_rfl) (by kernel_rfl) (by kernel_rfl) (by kernel_rfl) ?_
      intro σ hp hq x w5 hS hU hV hA Lv hLv K hK
      have m10 : σ 10 = true := hq 10 (by simp)
      have m13 : σ 13 = false := hp 13 (by simp)
      simp only [m10, upB_ne (show (13 : Nat) ≠ 10 by decide), m13, upB_eq] at hS hU hK
      clear hp hq m10 m13
      obtain ⟨a3, k3, u59⟩ : ∃ a3 k3, x 59 = .slice a3 (nl + 1) k3 := hU 59 (by simp)
      have u61 : x 61 = .pointer (some ⟨B, i * 3 + 1, none⟩) := hU 61 (by simp)
      clear hU hV hA H1 hLv
      rw [frameD96] at hK ⊢
      simp only [u59, u61] at hK ⊢
      refine wpOp_step rfl (fun K' hK' => ?_)
      obtain ⟨hf5, hk5, -⟩ := (show Fuw w w5 ∧ Kx v4 ob w5 ∧ _ from hS)
      have q0 := kx_cell hk5 HC1.out NB.out
      have qf := (kx_froz hk5 ⟨HC1.out, HCF.out⟩ NB.out)
      go_simp
      exact hK' _ _ (hK undef _ (show GsT w v4 ob B (i * 3 + 1) (nl + 1) true true _ from ⟨w5, a3, k3, hf5, hk5, rfl⟩) (fun t u _ h => gsu_any _ _ (kgs_t t).1 h) (fun e he => by cases he))
    case base =>
      refine midB_start rfl rfl (show GsT w v4 ob B (i * 3 + 1) (nl + 1) false false v4.drew from ⟨FV.out.drew, kx_of (Fuw.drew (Fuw.refl _)), fun _ => Fuw.drew (Fuw.refl _)⟩) (fun t ht hh => ?_) (fun t => trivial)
      rcases start_of (ks := kGsF) (L := []) (by kernel_rfl) t ht hh with e | e
      · show GsU _ _ _ _ _ _ _ _ (kGsF.getD t 0) _ _
        rw [e]; trivial
      · cases e
    case fin =>
      intro x w5 hS hU hA
      rename_i hk9
      refine hk9 _ _ ?_
      obtain ⟨w3, a3, k3, hf3, hk3, rfl⟩ := hS
      have u2 : x 2 = .int .u8 (k : Int) := hA 2 (by kernel_rfl)
      have u3 : x 3 = .pointer (some ⟨w.heap.size, 0, none⟩) := hA 3 (by kernel_rfl)
      have u7 : x 7 = .pointer (some ⟨w2.heap.size, 0, none⟩) := hA 7 (by kernel_rfl)
      clear hU hA
      obtain ⟨V, hV⟩ : ∃ V, V = w3.setCell ⟨B, i * 3 + 1, none⟩ (.slice a3 (nl + 1) k3) := ⟨_, rfl⟩
      have hO := HOV.out
      rw [← HPL.out] at hO
      obtain ⟨us, hus, hCR, hQ, hI⟩ := chg_nodes (w3 := w3) hO i hip (.slice a3 (nl + 1) k3) (fun b hb hn => hk3.2 b hb (fun q => hn (by rw [← HAA.out, ← HCC.out, ← HNN.out, HOB.out]; exact q)))
      rw [← hV] at hCR hQ ⊢
      have TV2 := Lib.hid (show Bk V w.heap.size #[.slice an g.ns.length cn, .slice ae g.es.length ce, .int .i64 g.nn, .int .i64 g.ne] 25 from by rw [hV]; exact (kx_bk hk3 TV.out NA.out).far (Ne.symm HBB.out.1) _)
      have PV2 := Lib.hid (show Bk V w2.heap.size #[.slice (some ⟨B, 0, none⟩) g.ns.length yn, .slice xe g.es.length ye, .int .i64 g.nn, .int .i64 g.ne] 25 from by rw [hV]; exact (kx_bk hk3 P3.out NC.out).far (Ne.symm HBB.out.2) _)
      have FV2 := Lib.hid (show Fuw w V from by rw [hV]; exact fuwS hf3 (by have := HBL.out B rfl; have := HBc.out; omega))
      have HCN := Lib.hid (show ∀ w', Fuw V w' → Calls Tryz.prog 17 #[.slice an g.ns.length cn, .slice (some ⟨B, 0, none⟩) g.ns.length yn, .func (.func 18) #[] #[]] w' (FwB w' false) from fun w' ff' => by
        have q := lne_chg ps us i hip B yn an cn a3 k3 w' (by rw [← HPS.out]; exact (HG.out.on (FV2.out.trans ff')).n) hus (hCR.on ff') (fun j h h' hne => by obtain ⟨b1, b2, b3, b4, b5, b6, b7⟩ := hQ j h h' hne; exact ⟨b1, b2, b3, b4, b5, slS_on ff' b6, slP_on ff' b7⟩) (fun h' => by rw [← HNN.out]; exact hI h')
        rw [HPL.out] at q
        exact q)
      clear hO hus hCR hQ hI hf3 hk3 TV FV P3 HOV hip HOW HLO HNL NC NA NB HC1 HOB HCF HBB HNN HAA HCC HPM HPR HBL HN2
      clear hV HPS HPL iS hiS hS0 hS1 hS2
      rw [frameD96]
      simp only [u2, u3, u7]
      clear u2 u3 u7
      have c0 : V.cell? ⟨w.heap.size, 0, none⟩ = some (.slice an g.ns.length cn) := TV2.out.c 0
      have c1 : V.cell? ⟨w.heap.size, 1, none⟩ = some (.slice ae g.es.length ce) := TV2.out.c 1
      have c2 : V.cell? ⟨w.heap.size, 2, none⟩ = some (.int .i64 g.nn) := TV2.out.c 2
      have c3 : V.cell? ⟨w.heap.size, 3, none⟩ = some (.int .i64 g.ne) := TV2.out.c 3
      have d0 : V.cell? ⟨w2.heap.size, 0, none⟩ = some (.slice (some ⟨B, 0, none⟩) g.ns.length yn) := PV2.out.c 0
      have d1 : V.cell? ⟨w2.heap.size, 1, none⟩ = some (.slice xe g.es.length ye) := PV2.out.c 1
      have d2 : V.cell? ⟨w2.heap.size, 2, none⟩ = some (.int .i64 g.nn) := PV2.out.c 2
      have d3 : V.cell? ⟨w2.heap.size, 3, none⟩ = some (.int .i64 g.ne) := PV2.out.c 3
      have HCS := Lib.hid (lsame_no g.ns.length g.ns.length g.es.length g.es.length g.nn g.ne g.nn g.ne an ae (some ⟨B, 0, none⟩) xe cn ce yn ye V HCN.out)
      go_wp2_with fail
      go_at_call 7; refine HCS.out.mono ?_; rintro e5 w5 ⟨rfl, f5⟩
      have TV := Lib.hid (TV2.out.on f5)
      have PV := Lib.hid (PV2.out.on f5)
      have FV := Lib.hid (FV2.out.trans f5)
      clear f5 c0 c1 c2 c3 d0 d1 d2 d3 TV2 PV2 FV2 HCS HCN
      have c0 : w5.cell? ⟨w.heap.size, 0, none⟩ = some (.slice an g.ns.length cn) := TV.out.c 0
      have c1 : w5.cell? ⟨w.heap.size, 1, none⟩ = some (.slice ae g.es.length ce) := TV.out.c 1
      have c2 : w5.cell? ⟨w.heap.size, 2, none⟩ = some (.int .i64 g.nn) := TV.out.c 2
      have c3 : w5.cell? ⟨w.heap.size, 3, none⟩ = some (.int .i64 g.ne) := TV.out.c 3
      have HY := Lib.hid (rcopy_any g an ae cn ce w5 (HG.out.on FV.out) HM.out)
      unfold grv at HY
      go_wp2_with fail
      go_at_call 6; refine HY.out.mono ?_; rintro e6 w6 ⟨s2, zn, ze, un, ue, wm, rfl, hs1, hs2, hON2, hs3, hKK2, hOE2, f6⟩
      unfold grv
      have b6 := PV.out.on f6
      have x0 := b6.c 0
      have x1 := b6.c 1
      have x2 := b6.c 2
      have x3 := b6.c 3
      have y0 := b6.f 0
      have y1 := b6.f 1
      have y2 := b6.f 2
      have y3 := b6.f 3
      have HB6 := Lib.hid b6
      have HX := Lib.hid (And.intro hs1 (And.intro hs2 hs3))
      have HVS := Lib.hid (bk_lt PV.out)
      have HT6 := Lib.hid (TV.out.on f6)
      have HF6 := Lib.hid (FV.out.trans f6)
      have HOE := Lib.hid hOE2
      have HON := Lib.hid hON2
      have HKK := Lib.hid hKK2
      clear hs1 hs2 hs3 hON2 hKK2 hOE2 f6 b6 c0 c1 c2 c3 HY
      go_upto_region 12 with fail
      obtain ⟨V6, hV6⟩ : ∃ V6, V6 = ((((w6.setCell ⟨w2.heap.size, 0, none⟩ (.slice zn g.ns.length un)).setCell ⟨w2.heap.size, 1, none⟩ (.slice ze g.es.length ue)).setCell ⟨w2.heap.size, 2, none⟩ (.int .i64 g.nn)).setCell ⟨w2.heap.size, 3, none⟩ (.int .i64 g.ne)) := ⟨_, rfl⟩
      rw [← hV6]
      have PC := Lib.hid (show Bk V6 w2.heap.size #[.slice zn g.ns.length un, .slice ze g.es.length ue, .int .i64 g.nn, .int .i64 g.ne] 25 from by rw [hV6]; exact (((HB6.out.set_ 0 _).set_ 1 _).set_ 2 _).set_ 3 _)
      have hne : w.heap.size ≠ w2.heap.size := by have := HBc.out; omega
      have hle : w.heap.size ≤ w2.heap.size := by have := HBc.out; omega
      have TC := Lib.hid (show Bk V6 w.heap.size #[.slice an g.ns.length cn, .slice ae g.es.length ce, .int .i64 g.nn, .int .i64 g.ne] 25 from by rw [hV6]; exact (((HT6.out.far hne _).far hne _).far hne _).far hne _)
      have FC := Lib.hid (show Fuw w V6 from by rw [hV6]; exact fuwS (fuwS (fuwS (fuwS HF6.out hle) hle) hle) hle)
      have HB2 := Lib.hid (show w2.heap.size < s2 ∧ s2 ≤ wm.heap.size ∧ wm.heap.size ≤ V6.heap.size from by have := HX.out; have := HVS.out; rw [hV6]; simp; omega)
      have HKV := Lib.hid (show ∀ b, s2 ≤ b → b < wm.heap.size → V6.heap[b]? = wm.heap[b]? from fun b k1 k2 => by
        have := HB2.out
        rw [hV6, heap_far (by omega), heap_far (by omega), heap_far (by omega), heap_far (by omega)]; exact HKK.out b k1 k2)
      have HE6 := Lib.hid (show OwnL LE 35 wm.heap.size g.es (.slice ze g.es.length ue) V6 from by
        have := HB2.out
        rw [hV6]; exact ownl_far (ownl_far (ownl_far (ownl_far HOE.out (by omega) _) (by omega) _) (by omega) _) (by omega) _)
      have HNE := Lib.hid hne
      have HLE := Lib.hid hle
      clear hV6 hne hle HB6 HX HVS HT6 HF6 HOE HKK x0 x1 x2 x3 y0 y1 y2 y3 TV PV FV
      have c1 : V6.cell? ⟨w2.heap.size, 1, none⟩ = some (.slice ze g.es.length ue) := PC.out.c 1
      rcases Nat.eq_zero_or_pos g.es.length with hez | hep
      · have heI : ¬ 0 < (g.es.length : Int) := by omega
        clear hez
        have c3 : V6.cell? ⟨w2.heap.size, 3, none⟩ = some (.int .i64 g.ne) := PC.out.c 3
        have f3 := PC.out.f 3
        go_upto_region 15 with fail
        clear c1 c3 f3
        obtain ⟨y, hy⟩ : ∃ y, y = wrap64 (g.ne - 1) := ⟨_, rfl⟩
        rw [← hy]
        have hyI := w64_pred HG.out.i2
        rw [← hy] at hyI
        clear hy
        obtain ⟨V7, hV7⟩ : ∃ V7, V7 = V6.setCell ⟨w2.heap.size, 3, none⟩ (.int .i64 y) := ⟨_, rfl⟩
        rw [← hV7]
        have PF := Lib.hid (show Bk V7 w2.heap.size #[.slice zn g.ns.length un, .slice ze g.es.length ue, .int .i64 g.nn, .int .i64 y] 25 from by rw [hV7]; exact PC.out.set_ 3 _)
        have TF := Lib.hid (show Bk V7 w.heap.size #[.slice an g.ns.length cn, .slice ae g.es.length ce, .int .i64 g.nn, .int .i64 g.ne] 25 from by rw [hV7]; exact TC.out.far HNE.out _)
        have FF := Lib.hid (show Fuw w V7 from by rw [hV7]; exact fuwS FC.out HLE.out)
        have HLS := Lib.hid (show Calls Tryz.prog 7 #[.agg #[.slice an g.ns.length cn, .slice ae g.es.length ce, .int .i64 g.nn, .int .i64 g.ne], .agg #[.slice zn g.ns.length un, .slice ze g.es.length ue, .int .i64 g.nn, .int .i64 y]] V7 (FwB V7 false) from by
          have hN7 : OwnN s2 g.ns (.slice zn g.ns.length un) V7 := by
            obtain ⟨qs, e, q⟩ := HON.out
            have := HB2.out
            exact ⟨qs, e, ownns_keep q (by rw [hV7]; simp; omega) (fun b k1 k2 => by rw [hV7, heap_far (by omega)]; exact HKV.out b k1 k2)⟩
          have hE7 : OwnL LE 35 wm.heap.size g.es (.slice ze g.es.length ue) V7 := by
            have := HB2.out
            rw [hV7]; exact ownl_far HE6.out (by omega) _
          have q := lsame_any g { g with ne := y } an ae zn ze cn ce un ue V7 (HG.out.on FF.out) ⟨ownn_sl2 hN7 HIN.out, ownl_sl hE7 HIE.out, HG.out.i1, hyI.1⟩
          rw [samG_ne g y hyI.2] at q
          exact q)
        clear hV7 hyI
        have d0 := PF.out.c 0
        have d1 := PF.out.c 1
        have d2 := PF.out.c 2
        have d3 := PF.out.c 3
        have g0 := TF.out.c 0
        have g1 := TF.out.c 1
        have g2 := TF.out.c 2
        have g3 := TF.out.c 3
        clear HNE HLE HB2 HKV HE6 HON HBc PC TC FC PF TF
        go_wp2_with fail
        go_at_call 7; refine HLS.out.mono ?_; rintro e7 w7 ⟨rfl, f7⟩
        have F7 := Lib.hid (FF.out.trans f7)
        clear f7 d0 d1 d2 d3 g0 g1 g2 g3 HLS FF
        go_wp2_with fail
        go_at_call 5; refine (alive_any _).mono ?_; rintro e8 w8 ⟨rfl, f8⟩
        have F8 := Lib.hid (F7.out.trans f8)
        clear f8 F7
        go_wp2
        go_ret
        exact ⟨rfl, F8.out⟩
      · have heI : 0 < (g.es.length : Int) := by omega
        go_upto_region 13 with fail
        have hj0 := Nat.mod_lt k hep
        have hr1 : (k : Int) % (g.es.length : Int) = ((k % g.es.length : Nat) : Int) := rfl
        have hr2 : Int.tmod (k : Int) (g.es.length : Int) = ((k % g.es.length : Nat) : Int) := rfl
        generalize k % g.es.length = j at *
        obtain ⟨Be, rfl⟩ : ∃ Be, ze = some ⟨Be, 0, none⟩ := by
          have hn : g.es.length ≠ 0 := by omega
          obtain ⟨qs, e1, e2, -⟩ := HE6.out
          rcases e2.2 with ⟨-, h0⟩ | ⟨g0, cap, cur, e, _⟩
          · exfalso; rw [e1, List.length_map] at hn; exact hn h0
          · injection e with e1 e2 e3; exact ⟨_, e1⟩
        have hBe : wm.heap.size ≤ Be ∧ Be < V6.heap.size := by
          obtain ⟨qs, e1, e2, -⟩ := HE6.out
          exact e2.lt Be rfl
        have hSe := ownl_sl HE6.out HIE.out
        obtain ⟨b', o', e', hEC⟩ := hSe.get hj0
        obtain ⟨tt, htt⟩ : ∃ tt, tt = g.es[j].to := ⟨_, rfl⟩
        have ct : V6.cell? ⟨Be, j * 5 + 2, none⟩ = some (.int .i64 tt) := by
          rw [htt]
          have q := hEC.2.2.2.2.2.2.1
          cases e'
          rwa [Nat.zero_add] at q
        have fr : V6.frozen? ⟨Be, j * 5 + 2, none⟩ = false := by
          obtain ⟨qs, e1, e2, -⟩ := HE6.out
          exact own_froz e2 _
        have HIT := Lib.hid (show I64 tt from by rw [htt]; exact hEC.2.2.1)
        clear hEC hSe e'
        have HJ := Lib.hid hj0
        have HBE := Lib.hid hBe
        have HTT := Lib.hid htt
        have hjI : (j : Int) < (g.es.length : Int) := by omega
        clear htt hBe
        have hN7 := Lib.hid HB2.out
        go_region
        all_goals
          clear ct fr hr1 hr2 hjI
          obtain ⟨y, hy⟩ : ∃ y, y = wrap64 (tt + 1) := ⟨_, rfl⟩
          rw [← hy]
          have hyI := w64_succ HIT.out
          rw [← hy] at hyI
          clear hy
          obtain ⟨V7, hV7⟩ : ∃ V7, V7 = (V6.setCell ⟨Be, j * 5 + 2, none⟩ (.int .i64 y)).drew := ⟨_, rfl⟩
          rw [← hV7]
          have hb7 : ∀ b, b ≠ Be → V7.heap[b]? = V6.heap[b]? := fun b hb => by
            have q : (V6.setCell ⟨Be, j * 5 + 2, none⟩ (.int .i64 y)).heap[b]? = V6.heap[b]? := heap_far (Ne.symm hb)
            rw [hV7]; exact q
          have PF := Lib.hid (show Bk V7 w2.heap.size #[.slice zn g.ns.length un, .slice (some ⟨Be, 0, none⟩) g.es.length ue, .int .i64 g.nn, .int .i64 g.ne] 25 from (hb7 _ (by have := HB2.out; have := HBE.out; omega)).trans PC.out)
          have TF := Lib.hid (show Bk V7 w.heap.size #[.slice an g.ns.length cn, .slice ae g.es.length ce, .int .i64 g.nn, .int .i64 g.ne] 25 from (hb7 _ (by have := HB2.out; have := HBE.out; have := HLE.out; omega)).trans TC.out)
          have FF := Lib.hid (show Fuw w V7 from by rw [hV7]; exact (fuwS FC.out (by have := HB2.out; have := HBE.out; have := HLE.out; omega)).drew)
          have HLS := Lib.hid (show Calls Tryz.prog 7 #[.agg #[.slice an g.ns.length cn, .slice ae g.es.length ce, .int .i64 g.nn, .int .i64 g.ne], .agg #[.slice zn g.ns.length un, .slice (some ⟨Be, 0, none⟩) g.es.length ue, .int .i64 g.nn, .int .i64 g.ne]] V7 (FwB V7 false) from by
            have hN7 : OwnN s2 g.ns (.slice zn g.ns.length un) V7 := by
              obtain ⟨qs, e, q⟩ := HON.out
              have := HB2.out
              have := HBE.out
              exact ⟨qs, e, ownns_keep q (by rw [hV7]; simp; omega) (fun b k1 k2 => by rw [hb7 b (by omega)]; exact HKV.out b k1 k2)⟩
            have hE7 := chg_edges HE6.out HIE.out j HJ.out y hyI.1
            have hE8 : SlE V7 (some ⟨Be, 0, none⟩) (g.es.set j { g.es[j] with «to» := y }) ue := by
              rw [hV7]; exact slE_on (Fuw.drew (Fuw.refl _)) hE7
            have hne : g.es[j].to ≠ ({ g.es[j] with «to» := y } : Ed).to := fun q => hyI.2 (HTT.out.trans q)
            have q := lsame_any g { g with es := g.es.set j { g.es[j] with «to» := y } } an ae zn (some ⟨Be, 0, none⟩) cn ce un ue V7 (HG.out.on FF.out) ⟨ownn_sl2 hN7 HIN.out, hE8, HG.out.i1, HG.out.i2⟩
            rw [samG_to g j _ HJ.out hne] at q
            have e : (g.es.set j { g.es[j] with «to» := y }).length = g.es.length := by rw [List.length_set]
            generalize g.es.set j { g.es[j] with «to» := y } = L at *
            simp only [e] at q
            exact q)
          clear hV7 hyI hb7 HBE HJ HTT HIT
          have d0 := PF.out.c 0
          have d1 := PF.out.c 1
          have d2 := PF.out.c 2
          have d3 := PF.out.c 3
          have g0 := TF.out.c 0
          have g1 := TF.out.c 1
          have g2 := TF.out.c 2
          have g3 := TF.out.c 3
          clear HNE HLE HB2 hN7 HKV HE6 HON HBc PC TC FC PF TF
          go_wp2_with fail
          go_at_call 7; refine HLS.out.mono ?_; rintro e7 w7 ⟨rfl, f7⟩
          have F7 := Lib.hid (FF.out.trans f7)
          clear f7 d0 d1 d2 d3 g0 g1 g2 g3 HLS FF
          go_wp2_with fail
          go_at_call 5; refine (alive_any _).mono ?_; rintro e8 w8 ⟨rfl, f8⟩
          have F8 := Lib.hid (F7.out.trans f8)
          clear f8 F7
          go_wp2
          go_ret
          exact ⟨rfl, F8.out⟩
theorem u8_in {n : Int} (h : (Lit.int .u8 n).wf = true) : ∃ k : Nat, n = (k : Int) ∧ k ≤ 255 := by
  simp [Lit.wf, IntKind.min, IntKind.max, IntKind.signed, IntKind.bits] at h
  exact ⟨n.toNat, by omega, by omega⟩
/-- The law: whatever the graphs. -/
theorem sameg_walk (g h : Gr) (an ae bn be : Option Addr) (cn ce dn de : Nat) (n : Int) (w : World) (hg : GIn w g an ae cn ce) (hh : GIn w h bn be dn de) (hn : (Lit.int .u8 n).wf = true) :
    Calls Tryz.prog 3 #[grv g an ae cn ce, grv h bn be dn de, .int .u8 n] w (FwB w true) := by
  obtain ⟨k, rfl, hk⟩ := u8_in hn
  cases h0 : smlV g 60 100 with
  | false => exact sameg_out g h an ae bn be cn ce dn de _ w hg hh (.inl h0)
  | true =>
    cases h1 : smlV h 60 100 with
    | false => exact sameg_out g h an ae bn be cn ce dn de _ w hg hh (.inr h1)
    | true => exact sameg_in g h an ae bn be cn ce dn de k w hg hh hk h0 h1
end Go.Proofs.YtkcmakfmeioakaaGreat
