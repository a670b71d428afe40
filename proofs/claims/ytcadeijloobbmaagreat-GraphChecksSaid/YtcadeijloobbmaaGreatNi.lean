/-
  GsI; GsJ; GrS: texts of one kind in one file; each part says what it holds.
-/
import Derived.Test.YtcadeijloobbmaaGreatNh
import Derived.Test.YtcadeijloobbmaaGreatGrR

/-! The reference of package graph: the types of its edges. Nothing that was there turns. -/
namespace Go.Proofs.YtcadeijloobbmaaGreat
open Go.RowKit

/-- What has been put, of what there is. -/
def PutI (L rest all : List (List UInt8)) : Prop := incS L ∧ (∀ s, (s ∈ L ∨ s ∈ rest) ↔ s ∈ all) ∧ L.length + rest.length ≤ all.length
theorem putI_0 (all : List (List UInt8)) : PutI [] all all := ⟨List.Pairwise.nil, fun s => by simp, by simp⟩
theorem putI_s {L rest all : List (List UInt8)} {s : List UInt8} (h : PutI L (s :: rest) all) : PutI (putS L s) rest all := by
  obtain ⟨h1, h2, h3⟩ := h
  refine ⟨put_inc s L h1, fun t => ?_, ?_⟩
  · rw [← h2 t, put_mem, List.mem_cons]
    constructor
    · rintro ((h | h) | h)
      · exact .inr (.inl h)
      · exact .inl h
      · exact .inr (.inr h)
    · rintro (h | h | h)
      · exact .inl (.inr h)
      · exact .inl (.inl h)
      · exact .inr h
  · have := put_len L s
    rw [List.length_cons] at h3
    omega
theorem putI_e {L all : List (List UInt8)} (h : PutI L [] all) : L = dstV all := dst_of h.1 fun s => by rw [← h.2.1 s]; simp
set_option maxHeartbeats 3200000 in
set_option maxRecDepth 100000 in
theorem rtypes_any (g : Gr) (an ae : Option Addr) (cn ce : Nat) (w : World) (hg : GIn w g an ae cn ce) (hn : g.es.length ≤ 10000) :
    Calls Tryz.prog 13 #[grv g an ae cn ce] w (RetD w (dstV (tysV g.es))) := by
  have f0 := fuwA w (.cells #[.slice an g.ns.length cn, .slice ae g.es.length ce, .int .i64 g.nn, .int .i64 g.ne] 25)
  have hb0 := GB.new w g an ae cn ce
  obtain ⟨U, hU⟩ : ∃ U, U = tysV g.es := ⟨_, rfl⟩
  have HU := Lib.hid (show PutI [] (tysV (g.es.drop 0)) U from by rw [hU]; exact putI_0 _)
  have HUL := Lib.hid (show U.length ≤ 10000 by rw [hU]; unfold tysV; rw [List.length_map]; exact hn)
  rw [← hU]
  unfold grv
  obtain ⟨w0, hw0⟩ : ∃ w0, w0 = w.alloc (.cells #[.slice an g.ns.length cn, .slice ae g.es.length ce, .int .i64 g.nn, .int .i64 g.ne] 25) := ⟨_, rfl⟩
  rw [← hw0] at f0 hb0
  have HW0 := Lib.hid hw0
  have F0 := Lib.hid f0
  have HB := Lib.hid hb0
  have HE := Lib.hid (slE_on f0 hg.e)
  clear hw0 f0 hb0 hg hU
  go_enter Tryz.func13, Tryz.ntmps13
  go_upto_region 1 with fail
  rw [← HW0.out]
  go_wp2
  go_loopw [3, 4] (fun lv iv wr => ∃ (i : Nat) (L : List (List UInt8)) (a : Option Addr) (c : Nat), lv = .slice a L.length c ∧ iv = .int .i64 i ∧ i ≤ g.es.length ∧ Hid (SlS wr a L c) ∧ Hid (PutI L (tysV (g.es.drop i)) U) ∧ Hid (Fuw w0 wr)) (fun _ iv _ => g.es.length - (RowKit.intOf iv).toNat)
  case atStart => exact ⟨0, [], none, 0, rfl, rfl, Nat.zero_le _, Sl.empty _, HU, Fuw.refl _⟩
  case round =>
    obtain ⟨i, L, a, c, rfl, rfl, hii, HL, HQ, hf⟩ := hrel
    have q1 := (HB.out.on hf.out).c1
    by_cases hlt : i < g.es.length
    · obtain ⟨b, o, rfl, -, -, -, hz, -, -, -, c3, -, -, -, -⟩ := (slE_on hf.out HE.out).get hlt
      have HZ := Lib.hid (show PutI (putS L g.es[i].ty) (tysV (g.es.drop (i + 1))) U from putI_s (by have k := HQ.out; rwa [tys_drop g.es i hlt] at k))
      have hLl : L.length ≤ 200000 := by have := HQ.out.2.2; have := HUL.out; omega
      have HP := Lib.hid (rput_any L a c g.es[i].ty wr HL.out hLl hz)
      clear hLl hz
      generalize g.es[i].ty = key at *
      generalize putS L key = L2 at *
      go_wp2_with fail
      go_at_call 29; refine HP.out.mono ?_; rintro e1 w1 ⟨a1, k1, rfl, hs1, f1⟩
      have HL1 := Lib.hid hs1
      have HF := Lib.hid (hf.out.trans f1)
      clear hs1 f1 q1 c3
      go_wp2
      go_roundw
      case rel => exact ⟨i + 1, L2, a1, k1, rfl, by go_num, by omega, HL1, HZ, HF⟩
      case measure => simp [RowKit.intOf]; omega
    · have HZ := Lib.hid (show L = dstV U from putI_e (by have k := HQ.out; rwa [List.drop_of_length_le (show g.es.length ≤ i by omega)] at k))
      go_wp2
      go_ret
      exact ⟨a, c, by rw [← HZ.out]; rfl, by rw [← HZ.out]; exact HL.out, F0.out.trans hf.out⟩
end Go.Proofs.YtcadeijloobbmaaGreat

/-! The reference of package graph: the labels of its nodes. Nothing that was there turns. -/
namespace Go.Proofs.YtcadeijloobbmaaGreat
open Go.RowKit

theorem labs_split (ls : List (List UInt8)) (k : Nat) (h : k < ls.length) (R : List (List UInt8)) : ls.drop k ++ R = ls[k] :: (ls.drop (k + 1) ++ R) := by
  rw [List.drop_eq_getElem_cons h]; rfl
set_option maxHeartbeats 6400000 in
set_option maxRecDepth 100000 in
theorem rlabels_any (g : Gr) (an ae : Option Addr) (cn ce : Nat) (w : World) (hg : GIn w g an ae cn ce) (hn : (labsV g.ns).length ≤ 100000) :
    Calls Tryz.prog 11 #[grv g an ae cn ce] w (RetD w (dstV (labsV g.ns))) := by
  have l1 := hg.n.len
  have f0 := fuwA w (.cells #[.slice an g.ns.length cn, .slice ae g.es.length ce, .int .i64 g.nn, .int .i64 g.ne] 25)
  have hb0 := GB.new w g an ae cn ce
  obtain ⟨U, hU⟩ : ∃ U, U = labsV g.ns := ⟨_, rfl⟩
  have HU := Lib.hid (show PutI [] (labsV (g.ns.drop 0)) U from by rw [hU]; exact putI_0 _)
  have HUL := Lib.hid (show U.length ≤ 100000 by rw [hU]; exact hn)
  rw [← hU]
  unfold grv
  obtain ⟨w0, hw0⟩ : ∃ w0, w0 = w.alloc (.cells #[.slice an g.ns.length cn, .slice ae g.es.length ce, .int .i64 g.nn, .int .i64 g.ne] 25) := ⟨_, rfl⟩
  rw [← hw0] at f0 hb0
  have HW0 := Lib.hid hw0
  have F0 := Lib.hid f0
  have HB := Lib.hid hb0
  have HE := Lib.hid (slN_on f0 hg.n)
  clear hw0 f0 hb0 hg hU hn
  go_enter Tryz.func11, Tryz.ntmps11
  go_upto_region 1 with fail
  rw [← HW0.out]
  go_wp2
  go_loopw [3, 4] (fun lv iv wr => ∃ (i : Nat) (L : List (List UInt8)) (a : Option Addr) (c : Nat), lv = .slice a L.length c ∧ iv = .int .i64 i ∧ i ≤ g.ns.length ∧ Hid (SlS wr a L c) ∧ Hid (PutI L (labsV (g.ns.drop i)) U) ∧ Hid (Fuw w0 wr)) (fun _ iv _ => g.ns.length - (RowKit.intOf iv).toNat)
  case atStart => exact ⟨0, [], none, 0, rfl, rfl, Nat.zero_le _, Sl.empty _, HU, Fuw.refl _⟩
  case round =>
    obtain ⟨i, L, a, c, rfl, rfl, hii, HL, HQ, hf⟩ := hrel
    clear HU
    have q0 := (HB.out.on hf.out).c0
    by_cases hlt : i < g.ns.length
    · obtain ⟨b, o, hao, -, -, ⟨al, cl, c1, hsl⟩, -⟩ := (slN_on hf.out HE.out).get hlt
      have HZ := Lib.hid (show PutI L (g.ns[i].ls.drop 0 ++ labsV (g.ns.drop (i + 1))) U from by have k := HQ.out; rwa [labs_drop g.ns i hlt] at k)
      have HSL := Lib.hid hsl
      have HC1 := Lib.hid c1
      have nl := hsl.len
      have HFo := Lib.hid hf.out
      subst hao
      clear hsl HQ
      generalize g.ns[i].ls = ls at *
      obtain ⟨wo, hwo⟩ : ∃ wo, wo = wr := ⟨_, rfl⟩
      have HFB := Lib.hid (show Fuw wo wr by rw [hwo]; exact Fuw.refl _)
      rw [← hwo] at HSL HC1 HFo
      have HFr := Lib.hid (hf.out)
      clear hwo hf
      go_wp2
      clear q0 c1
      go_loopw [3, 5] (fun lv kv wx => ∃ (k : Nat) (L : List (List UInt8)) (a : Option Addr) (c : Nat), lv = .slice a L.length c ∧ kv = .int .i64 k ∧ k ≤ ls.length ∧ Hid (SlS wx a L c) ∧ Hid (PutI L (ls.drop k ++ labsV (g.ns.drop (i + 1))) U) ∧ Hid (Fuw wo wx)) (fun _ kv _ => ls.length - (RowKit.intOf kv).toNat)
      case atStart => exact ⟨0, L, a, c, rfl, rfl, Nat.zero_le _, HL, HZ, HFB⟩
      case round =>
        clear HL HZ HFB HFr
        obtain ⟨k, L, a, c, rfl, rfl, hk, HL, HQ, hf⟩ := hrel
        have q0 := (HB.out.on (HFo.out.trans hf.out)).c0
        have c1 := cellOnw hf.out HC1.out
        by_cases hlk : k < ls.length
        · obtain ⟨b', o', rfl, hz, d0⟩ := (slS_on hf.out HSL.out).get hlk
          have HZ := Lib.hid (show PutI (putS L ls[k]) (ls.drop (k + 1) ++ labsV (g.ns.drop (i + 1))) U from putI_s (by have k' := HQ.out; rwa [labs_split ls k hlk] at k'))
          have hLl : L.length ≤ 200000 := by have := HQ.out.2.2; have := HUL.out; omega
          have HP := Lib.hid (fun w' (h : Fuw _ w') => rput_any L a c ls[k] w' (slS_on h HL.out) hLl hz)
          rw [Nat.mul_one] at d0
          clear hLl hz HQ
          generalize ls[k] = key at *
          generalize putS L key = L2 at *
          go_wp2_with fail
          go_at_call 29; refine (HP.out _ (Fuw.refl _)).mono ?_; rintro e1 w1 ⟨a1, k1, rfl, hs1, f1⟩
          have HL1 := Lib.hid hs1
          have HF := Lib.hid (hf.out.trans f1)
          clear hs1 f1 q0 c1 d0
          go_wp2
          go_roundw
          case rel => exact ⟨k + 1, L2, a1, k1, rfl, by go_num, by omega, HL1, HZ, HF⟩
          case measure => simp [RowKit.intOf]; omega
        · have HZ := Lib.hid (show PutI L (labsV (g.ns.drop (i + 1))) U from by have k' := HQ.out; rwa [List.drop_of_length_le (show ls.length ≤ k by omega), List.nil_append] at k')
          have HF := Lib.hid (HFo.out.trans hf.out)
          clear HQ
          go_wp2
          go_roundw
          case rel => exact ⟨i + 1, L, a, c, rfl, by go_num, by omega, HL, HZ, HF⟩
          case measure => simp [RowKit.intOf]; omega
    · have HZ := Lib.hid (show L = dstV U from putI_e (by have k := HQ.out; rwa [List.drop_of_length_le (show g.ns.length ≤ i by omega)] at k))
      go_wp2
      go_ret
      exact ⟨a, c, by rw [← HZ.out]; rfl, by rw [← HZ.out]; exact HL.out, F0.out.trans hf.out⟩
end Go.Proofs.YtcadeijloobbmaaGreat

/-! The laws of package graph: alive (the worked examples of the chapter hold). Nothing that was there turns. -/
namespace Go.Proofs.YtcadeijloobbmaaGreat
open Go.RowKit

/-- A result slice of entries that holds a list. -/
theorem slJ_blk {w : World} {B : Nat} {x y : Int × Int × Int} {t : TypeId} (h : Bk w B #[.int .i64 x.1, .int .i64 x.2.1, .int .i64 x.2.2, .int .i64 y.1, .int .i64 y.2.1, .int .i64 y.2.2] t) : SlJ w (some ⟨B, 0, none⟩) [x, y] 2 :=
  ⟨Nat.le_refl _, m2, (fun h => by cases h), fun _ => ⟨B, 0, rfl, fun i hi => by
    have hi' : i < 2 := hi
    rcases (show i = 0 ∨ i = 1 by omega) with rfl | rfl
    · exact ⟨h.c 0, h.c 1, h.c 2⟩
    · exact ⟨h.c 3, h.c 4, h.c 5⟩⟩⟩
theorem slS_blk {w : World} {B : Nat} {t : TypeId} (h : Bk w B #[.string ⟨#[84]⟩] t) : SlS w (some ⟨B, 0, none⟩) [[84]] 1 :=
  ⟨Nat.le_refl _, m1, (fun h => by cases h), fun _ => ⟨B, 0, rfl, fun i hi => by
    have hi' : i < 1 := hi
    obtain rfl : i = 0 := by omega
    exact ⟨m1, h.c 0⟩⟩⟩
theorem samJ_ex : samJ [(2, 1, 1), (2, 2, 2)] [(2, 1, 1), (2, 2, 2)] = true := samJ_self _
set_option maxHeartbeats 6400000 in
set_option maxRecDepth 100000 in
theorem alive_any (w : World) : Calls Tryz.prog 6 #[] w (FwB w true) := by
  go_enter Tryz.func6, Tryz.ntmps6
  go_wp2_with fail
  go_at_call 18; refine (example_any _).mono ?_; rintro e1 w1 ⟨b1, b2, rfl, p1, p2, l1, l2, hb, f1⟩
  go_upto_region 2 with fail
  obtain ⟨W2, hW2⟩ : ∃ W, W = w1.alloc (.cells #[.slice (some ⟨b1, 0, none⟩) 2 2, .slice (some ⟨b2, 0, none⟩) 2 2, .int .i64 3, .int .i64 3] 25) := ⟨_, rfl⟩
  have f2 : Fuw w1 W2 := by rw [hW2]; exact fuwA _ _
  have B1 : Bk W2 w1.heap.size #[.slice (some ⟨b1, 0, none⟩) 2 2, .slice (some ⟨b2, 0, none⟩) 2 2, .int .i64 3, .int .i64 3] 25 := by rw [hW2]; exact Bk.new _ _ _
  rw [← hW2]
  clear hW2
  go_wp2_with fail
  go_at_call 18; refine (example_any _).mono ?_; rintro e3 w3 ⟨c1, c2, rfl, p3, p4, l3, l4, hc, f3⟩
  go_upto_region 3 with fail
  obtain ⟨W4, hW4⟩ : ∃ W, W = w3.alloc (.cells #[.slice (some ⟨c1, 0, none⟩) 2 2, .slice (some ⟨c2, 0, none⟩) 2 2, .int .i64 3, .int .i64 3] 25) := ⟨_, rfl⟩
  have f4 : Fuw w3 W4 := by rw [hW4]; exact fuwA _ _
  have B2 : Bk W4 w3.heap.size #[.slice (some ⟨c1, 0, none⟩) 2 2, .slice (some ⟨c2, 0, none⟩) 2 2, .int .i64 3, .int .i64 3] 25 := by rw [hW4]; exact Bk.new _ _ _
  rw [← hW4]
  clear hW4
  have q1 : W4.cell? ⟨w3.heap.size, 1, none⟩ = some (.slice (some ⟨c2, 0, none⟩) 2 2) := B2.c 1
  have P4 := p4.on f4
  have P3 := p3.on f4
  have k2 : W4.cell? ⟨c2, 2, none⟩ = some (.int .i64 2) := P4.c 2
  have k2' := P4.f 2
  have lt1 := p1.lt
  have lt2 := p2.lt
  have lt4 := p4.lt
  have z1 := f1.size
  have z2 := f2.size
  have z3 := f3.size
  have G1 : Bk (W4.setCell ⟨c2, 2, none⟩ (.int .i64 9)) b1 exN 38 := (((p1.on f2).on f3).on f4).far (p := ⟨c2, 2, none⟩) (by show b1 ≠ c2; omega) _
  have G2 : Bk (W4.setCell ⟨c2, 2, none⟩ (.int .i64 9)) b2 (exE 2) 40 := (((p2.on f2).on f3).on f4).far (p := ⟨c2, 2, none⟩) (by show b2 ≠ c2; omega) _
  have G3 : Bk (W4.setCell ⟨c2, 2, none⟩ (.int .i64 9)) c1 exN 38 := P3.far (p := ⟨c2, 2, none⟩) (by show c1 ≠ c2; exact hc) _
  have G4 : Bk (W4.setCell ⟨c2, 2, none⟩ (.int .i64 9)) c2 (exE 9) 40 := P4.set_ 2 _
  have X1 := (((B1.on f3).on f4).far (p := ⟨c2, 2, none⟩) (by show w1.heap.size ≠ c2; have := B1.lt; omega) (.int .i64 9))
  have X2 := (B2.far (p := ⟨c2, 2, none⟩) (by show w3.heap.size ≠ c2; omega) (.int .i64 9))
  have FW : Fuw w (W4.setCell ⟨c2, 2, none⟩ (.int .i64 9)) := fuwS (((f1.trans f2).trans f3).trans f4) (by omega)
  have I1 := Lib.hid (ex_in G1 G2 (by decide) (by decide))
  have I2 := Lib.hid (ex_in G3 G4 (by decide) (by decide))
  have HX1 := Lib.hid X1
  have HX2 := Lib.hid X2
  have F0 := Lib.hid FW
  clear p1 p2 p3 p4 l1 l2 l3 l4 hb hc f1 f2 f3 f4 B1 P4 P3 lt1 lt2 lt4 z1 z2 z3 G1 G2 G3 G4 X1 X2 FW B2
  go_upto_region 4 with fail
  clear q1 k2 k2'
  generalize W4.setCell ⟨c2, 2, none⟩ (.int .i64 9) = W at *
  have a0 : W.cell? ⟨w1.heap.size, 0, none⟩ = some (.slice (some ⟨b1, 0, none⟩) 2 2) := HX1.out.c 0
  have a1 : W.cell? ⟨w1.heap.size, 1, none⟩ = some (.slice (some ⟨b2, 0, none⟩) 2 2) := HX1.out.c 1
  have a2 : W.cell? ⟨w1.heap.size, 2, none⟩ = some (.int .i64 3) := HX1.out.c 2
  have a3 : W.cell? ⟨w1.heap.size, 3, none⟩ = some (.int .i64 3) := HX1.out.c 3
  have S1 := Lib.hid (fun w' (hf : Fuw W w') => steps_any (exG 2) (some ⟨b1, 0, none⟩) (some ⟨b2, 0, none⟩) 2 2 2 [] none 0 3 w' (I1.out.on hf) (Sl.empty _) (by decide))
  unfold grv at S1
  rw [ex_both] at S1
  go_wp2_with fail
  go_at_call 19; refine (S1.out _ (Fuw.refl _)).mono ?_; rintro e5 w5 ⟨ao5, k5, rfl, h5, f5⟩
  have H5 := Lib.hid h5
  have F5 := Lib.hid f5
  clear h5 f5 a0 a1 a2 a3 S1
  have a0 : w5.cell? ⟨w1.heap.size, 0, none⟩ = some (.slice (some ⟨b1, 0, none⟩) 2 2) := (HX1.out.on F5.out).c 0
  have a1 : w5.cell? ⟨w1.heap.size, 1, none⟩ = some (.slice (some ⟨b2, 0, none⟩) 2 2) := (HX1.out.on F5.out).c 1
  have a2 : w5.cell? ⟨w1.heap.size, 2, none⟩ = some (.int .i64 3) := (HX1.out.on F5.out).c 2
  have a3 : w5.cell? ⟨w1.heap.size, 3, none⟩ = some (.int .i64 3) := (HX1.out.on F5.out).c 3
  have S2 := Lib.hid (fun w' (hf : Fuw W w') B t (hb : Bk w' B #[.string ⟨#[84]⟩] t) => steps_any (exG 2) (some ⟨b1, 0, none⟩) (some ⟨b2, 0, none⟩) 2 2 2 [[84]] (some ⟨B, 0, none⟩) 1 2 w' (I1.out.on hf) (slS_blk hb) (by decide))
  unfold grv at S2
  rw [ex_inn] at S2
  go_wp2_with fail
  go_at_call 19; refine (S2.out _ (F5.out.trans (fuwA _ _)) _ _ (Bk.new _ _ _)).mono ?_; rintro e6 w6 ⟨ao6, k6, rfl, h6, f6⟩
  have H6 := Lib.hid h6
  have F6 := Lib.hid (F5.out.trans ((fuwA _ _).trans f6))
  have F56 := Lib.hid ((fuwA _ _).trans f6)
  clear h6 f6 a0 a1 a2 a3 S2
  have a0 : w6.cell? ⟨w1.heap.size, 0, none⟩ = some (.slice (some ⟨b1, 0, none⟩) 2 2) := (HX1.out.on F6.out).c 0
  have a1 : w6.cell? ⟨w1.heap.size, 1, none⟩ = some (.slice (some ⟨b2, 0, none⟩) 2 2) := (HX1.out.on F6.out).c 1
  have a2 : w6.cell? ⟨w1.heap.size, 2, none⟩ = some (.int .i64 3) := (HX1.out.on F6.out).c 2
  have a3 : w6.cell? ⟨w1.heap.size, 3, none⟩ = some (.int .i64 3) := (HX1.out.on F6.out).c 3
  have C1 := Lib.hid (fun w' (hf : Fuw W w') => check_any (exG 2) (some ⟨b1, 0, none⟩) (some ⟨b2, 0, none⟩) 2 2 w' (I1.out.on hf))
  unfold grv at C1
  rw [ex_ok] at C1
  go_wp2_with fail
  go_at_call 7; refine (C1.out _ F6.out).mono ?_; rintro e7 w7 ⟨rfl, f7⟩
  have F7 := Lib.hid (F6.out.trans f7)
  have F57 := Lib.hid (F56.out.trans f7)
  have F67 := Lib.hid f7
  clear f7 a0 a1 a2 a3 C1
  have a0 : w7.cell? ⟨w3.heap.size, 0, none⟩ = some (.slice (some ⟨c1, 0, none⟩) 2 2) := (HX2.out.on F7.out).c 0
  have a1 : w7.cell? ⟨w3.heap.size, 1, none⟩ = some (.slice (some ⟨c2, 0, none⟩) 2 2) := (HX2.out.on F7.out).c 1
  have a2 : w7.cell? ⟨w3.heap.size, 2, none⟩ = some (.int .i64 3) := (HX2.out.on F7.out).c 2
  have a3 : w7.cell? ⟨w3.heap.size, 3, none⟩ = some (.int .i64 3) := (HX2.out.on F7.out).c 3
  have C2 := Lib.hid (fun w' (hf : Fuw W w') => check_any (exG 9) (some ⟨c1, 0, none⟩) (some ⟨c2, 0, none⟩) 2 2 w' (I2.out.on hf))
  unfold grv at C2
  rw [ex_bad] at C2
  go_wp2_with fail
  go_at_call 7; refine (C2.out _ F7.out).mono ?_; rintro e8 w8 ⟨rfl, f8⟩
  have F8 := Lib.hid (F7.out.trans f8)
  have F58 := Lib.hid (F57.out.trans f8)
  have F68 := Lib.hid (F67.out.trans f8)
  clear f8 a0 a1 a2 a3 C2
  have J1 := Lib.hid (fun w' (hf : Fuw w5 w') B t (hb : Bk w' B #[.int .i64 2, .int .i64 1, .int .i64 1, .int .i64 2, .int .i64 2, .int .i64 2] t) => samj_any (jL 2 [(1, 1), (2, 2)]) [(2, 1, 1), (2, 2, 2)] ao5 (some ⟨B, 0, none⟩) k5 2 w' (slJ_on hf H5.out) (slJ_blk hb))
  rw [show samJ (jL 2 [(1, 1), (2, 2)]) [(2, 1, 1), (2, 2, 2)] = true from samJ_ex] at J1
  go_wp2_with fail
  go_at_call 20; refine (J1.out _ (F58.out.trans (fuwA _ _)) _ _ (Bk.new _ _ _)).mono ?_; rintro e9 w9 ⟨rfl, f9⟩
  have F9 := Lib.hid (F8.out.trans ((fuwA _ _).trans f9))
  have F59 := Lib.hid (F58.out.trans ((fuwA _ _).trans f9))
  have F69 := Lib.hid (F68.out.trans ((fuwA _ _).trans f9))
  clear f9 J1
  have J2 := Lib.hid (fun w' (hf : Fuw w6 w') (hf5 : Fuw w5 w') => samj_any (jL 2 [(1, 1), (2, 2)]) (jL 2 [(1, 1), (2, 2)]) ao6 ao5 k6 k5 w' (slJ_on hf H6.out) (slJ_on hf5 H5.out))
  rw [samJ_self] at J2
  go_wp2_with fail
  go_at_call 20; refine (J2.out _ F69.out F59.out).mono ?_; rintro e10 w10 ⟨rfl, f10⟩
  have F10 := Lib.hid (F9.out.trans f10)
  clear f10 J2
  have a0 : w10.cell? ⟨w1.heap.size, 0, none⟩ = some (.slice (some ⟨b1, 0, none⟩) 2 2) := (HX1.out.on F10.out).c 0
  have a1 : w10.cell? ⟨w1.heap.size, 1, none⟩ = some (.slice (some ⟨b2, 0, none⟩) 2 2) := (HX1.out.on F10.out).c 1
  have a2 : w10.cell? ⟨w1.heap.size, 2, none⟩ = some (.int .i64 3) := (HX1.out.on F10.out).c 2
  have a3 : w10.cell? ⟨w1.heap.size, 3, none⟩ = some (.int .i64 3) := (HX1.out.on F10.out).c 3
  have S3 := Lib.hid (fun w' (hf : Fuw W w') => steps_any (exG 2) (some ⟨b1, 0, none⟩) (some ⟨b2, 0, none⟩) 2 2 2 [] none 0 1 w' (I1.out.on hf) (Sl.empty _) (by decide))
  unfold grv at S3
  rw [ex_out] at S3
  go_wp2_with fail
  go_at_call 19; refine (S3.out _ F10.out).mono ?_; rintro e11 w11 ⟨ao11, k11, rfl, -, f11⟩
  have F11 := Lib.hid (F10.out.trans f11)
  clear f11 a0 a1 a2 a3 S3
  go_wp2_with fail
  go_at_call 21; refine (new_any _).mono ?_; rintro e12 w12 ⟨an12, ae12, cn12, ce12, rfl, g12, f12⟩
  have F12 := Lib.hid (F11.out.trans f12)
  have C3 := Lib.hid (check_any nilG an12 ae12 cn12 ce12 w12 g12)
  unfold grv at C3 ⊢
  rw [ex_nil] at C3
  clear f12 g12
  go_wp2_with fail
  go_at_call 7; refine C3.out.mono ?_; rintro e13 w13 ⟨rfl, f13⟩
  have F13 := Lib.hid (F12.out.trans f13)
  clear f13 C3
  have N1 := Lib.hid (name_any ⟨#[97, 95, 49]⟩ w13 (by unfold maxLen; decide))
  have N2 := Lib.hid (name_any ⟨#[49, 97]⟩ w13 (by unfold maxLen; decide))
  rw [show nameV (⟨#[97, 95, 49]⟩ : ByteArray).data.toList = true from ex_a1] at N1
  rw [show nameV (⟨#[49, 97]⟩ : ByteArray).data.toList = false from ex_1a] at N2
  go_wp2_with fail
  go_at_call 22; refine N1.out.mono ?_; rintro e14 w14 ⟨rfl, rfl⟩
  go_wp2_with fail
  go_at_call 22; refine N2.out.mono ?_; rintro e15 w15 ⟨rfl, rfl⟩
  go_wp2
  go_ret
  exact ⟨rfl, F0.out.trans F13.out⟩
end Go.Proofs.YtcadeijloobbmaaGreat
