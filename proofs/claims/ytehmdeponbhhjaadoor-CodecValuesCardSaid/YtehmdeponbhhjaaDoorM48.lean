/-
  CwV; CdF: texts of one kind in one file; each part says what it holds.
-/
import Derived.Test.YtehmdeponbhhjaaDoorRnF
import Derived.Test.YtehmdeponbhhjaaDoorM46
import Derived.Test.YtehmdeponbhhjaaDoorM47
import Derived.Test.YtehmdeponbhhjaaDoorRows
import Derived.Test.YtehmdeponbhhjaaDoorM16
import Derived.ProofKit
import Derived.OpenShut
import Derived.SizedLaws
import Derived.Lib.SmallJoins
import Derived.LaidMore
import Derived.Lay
import Derived.Stop.Joined
import Derived.Stop.LaidErr
import Derived.HandedShaped
import Derived.Carry

/-! The statement CodecValues of package codec, walked: Value answers as the reference does. Condition: the table of halves of a byte reads as its initialiser lays it. Nothing that was there turns. -/
namespace Go.Proofs.YtehmdeponbhhjaaDoor
open Go.RowKit

theorem value_vin (ao : Option Addr) (l : List UInt8) (cap : Nat) (b : Int) (w : World) (h : IsB w ao l cap) {x : Vl} {E : Int} (e : valueV l b = .ok x E) : Vin x := by
  unfold valueV at e
  split at e
  · cases e
  · exact (val_rd (Nat.le_trans h.le h.max) 8 b x E (by omega) (by omega) e).1
set_option maxHeartbeats 6400000 in
set_option maxRecDepth 100000 in
theorem values_walk (ao : Option Addr) (l : List UInt8) (cap : Nat) (b : Int) (w : World) (h : IsB w ao l cap) (G : Good5 w) (hlim : l.length ≤ maxLen) : Calls Tryd.prog 3 #[.slice ao l.length cap, .int .i64 b] w (RwC w true) := by
  have HL := Lib.hid (fun w' (hf : Fuw w w') => live_any w' (G.on hf))
  unfold maxLen at hlim
  clear G
  by_cases hl : 2000 < l.length
  · have hlI : 2000 < (l.length : Int) := by omega
    clear hl h hlim
    go_enter Tryd.func3, Tryd.ntmps3
    go_wp2_with fail
    go_at_call 4; refine (HL.out _ (Fuw.refl _)).mono ?_; rintro e9 w9 ⟨rfl, f9⟩
    go_wp2
    go_ret
    exact ⟨rfl, f9⟩
  have hlI : ¬ 2000 < (l.length : Int) := by omega
  have H1 := Lib.hid (value_is ao l cap b w h)
  have H2 := Lib.hid (fun w' (hf : Fuw w w') => rvalue_is ao l cap b w' (h.on hf) (by omega))
  have HX := Lib.hid (fun x E (e : valueV l b = .ok x E) => value_vin ao l cap b w h e)
  clear h hl hlim
  generalize valueV l b = o at *
  unfold RetG at H1 H2
  cases o with
  | ok x E =>
    have hx := HX.out x E rfl
    have HO := Lib.hid (fun w' a1 c1 a2 c2 (h1 : SlV w' a1 x.ll c1) (h2 : SlV w' a2 x.ll c2) => (ord_self x) ▸ rorder_all x x a1 a2 c1 c2 w' hx hx h1 h2)
    unfold vlv at HO
    clear hx HX
    simp only at H1 H2
    go_enter Tryd.func3, Tryd.ntmps3
    go_wp2_with fail
    go_at_call 5; refine H1.out.mono ?_; rintro e1 w1 ⟨f1, a1, c1, he1, hk1⟩
    unfold vc at he1
    subst he1
    have HF := Lib.hid f1
    have HS := Lib.hid (hk1 w1 (Nat.le_refl _) (fun _ _ _ => rfl))
    clear f1 hk1
    go_upto_region 4 with fail
    obtain ⟨V1, hV⟩ : ∃ V, w1.alloc (.cells #[.int .i64 x.kd, .int .i64 x.nn, .int .i64 x.dd, .string (bs x.ss), .slice a1 x.ll.length c1] 26) = V := ⟨_, rfl⟩
    have HB := Lib.hid (show V1.heap[w1.heap.size]? = some (.cells #[.int .i64 x.kd, .int .i64 x.nn, .int .i64 x.dd, .string (bs x.ss), .slice a1 x.ll.length c1] 26 (0, 0)) from by
      rw [← hV]
      show (w1.heap.push _)[w1.heap.size]? = _
      rw [Array.getElem?_push, if_pos rfl])
    have f2 : Fuw w1 V1 := by rw [← hV]; exact (Fuw.refl w1).alloc _
    rw [hV]
    clear hV
    have HF := Lib.hid (Fuw.trans HF.out f2)
    have HS := Lib.hid (HS.out.onw f2)
    clear f2
    go_wp2_with fail
    go_at_call 6; refine (H2.out _ HF.out).mono ?_; rintro e2 w2 ⟨f2, a2, c2, he2, hk2⟩
    unfold vc at he2
    subst he2
    have HF := Lib.hid (Fuw.trans HF.out f2)
    have HB := Lib.hid (bz_on HB.out f2)
    have HS := Lib.hid (HS.out.onw f2)
    have HT := Lib.hid (hk2 w2 (Nat.le_refl _) (fun _ _ _ => rfl))
    clear f2 hk2
    go_upto_region 5 with fail
    obtain ⟨V2, hV⟩ : ∃ V, w2.alloc (.cells #[.int .i64 x.kd, .int .i64 x.nn, .int .i64 x.dd, .string (bs x.ss), .slice a2 x.ll.length c2] 26) = V := ⟨_, rfl⟩
    have HD := Lib.hid (show V2.heap[w2.heap.size]? = some (.cells #[.int .i64 x.kd, .int .i64 x.nn, .int .i64 x.dd, .string (bs x.ss), .slice a2 x.ll.length c2] 26 (0, 0)) from by
      rw [← hV]
      show (w2.heap.push _)[w2.heap.size]? = _
      rw [Array.getElem?_push, if_pos rfl])
    have f2 : Fuw w2 V2 := by rw [← hV]; exact (Fuw.refl w2).alloc _
    rw [hV]
    clear hV
    have HF := Lib.hid (Fuw.trans HF.out f2)
    have HB := Lib.hid (bz_on HB.out f2)
    have HS := Lib.hid (HS.out.onw f2)
    have HT := Lib.hid (HT.out.onw f2)
    clear f2
    obtain ⟨x0, x1, x2, x3, x4, xf, xl⟩ := five_cells HB.out
    obtain ⟨y0, y1, y2, y3, y4, yf, yl⟩ := five_cells HD.out
    clear xf yf
    go_wp2_with fail
    go_at_call 7; refine (HO.out _ _ _ _ _ HS.out HT.out).mono ?_; rintro e3 w3 ⟨rfl, f3⟩
    have HF := Lib.hid (Fuw.trans HF.out f3)
    clear f3 x0 x1 x2 x3 x4 xl y0 y1 y2 y3 y4 yl
    go_wp2_with fail
    go_at_call 4; refine (HL.out _ HF.out).mono ?_; rintro e9 w9 ⟨rfl, f9⟩
    go_wp2
    go_ret
    exact ⟨rfl, Fuw.trans HF.out f9⟩
  | er c =>
    have HO := Lib.hid (fun w' => (ord_self v0) ▸ rorder_all v0 v0 none none 0 0 w' (vin_flat 0 0 ⟨by decide, by decide⟩ ⟨by decide, by decide⟩ []) (vin_flat 0 0 ⟨by decide, by decide⟩ ⟨by decide, by decide⟩ []) (sl_none w') (sl_none w'))
    unfold vlv v0 at HO
    clear HX
    simp only at H1 H2
    have hcc : (c == c) = true := by simp
    go_enter Tryd.func3, Tryd.ntmps3
    go_wp2_with fail
    go_at_call 5; refine H1.out.mono ?_; rintro e1 w1 ⟨f1, he1, -⟩
    rw [vc_v0] at he1
    subst he1
    have HF := Lib.hid f1
    clear f1
    go_upto_region 4 with fail
    obtain ⟨V1, hV⟩ : ∃ V, w1.alloc (.cells #[.int .i64 0, .int .i64 0, .int .i64 0, .string ⟨#[]⟩, .slice none 0 0] 26) = V := ⟨_, rfl⟩
    have HB := Lib.hid (show V1.heap[w1.heap.size]? = some (.cells #[.int .i64 0, .int .i64 0, .int .i64 0, .string ⟨#[]⟩, .slice none 0 0] 26 (0, 0)) from by
      rw [← hV]
      show (w1.heap.push _)[w1.heap.size]? = _
      rw [Array.getElem?_push, if_pos rfl])
    have f2 : Fuw w1 V1 := by rw [← hV]; exact (Fuw.refl w1).alloc _
    rw [hV]
    clear hV
    have HF := Lib.hid (Fuw.trans HF.out f2)
    clear f2
    go_wp2_with fail
    go_at_call 6; refine (H2.out _ HF.out).mono ?_; rintro e2 w2 ⟨f2, he2, -⟩
    rw [vc_v0] at he2
    subst he2
    have HF := Lib.hid (Fuw.trans HF.out f2)
    have HB := Lib.hid (bz_on HB.out f2)
    clear f2
    go_upto_region 5 with fail
    obtain ⟨V2, hV⟩ : ∃ V, w2.alloc (.cells #[.int .i64 0, .int .i64 0, .int .i64 0, .string ⟨#[]⟩, .slice none 0 0] 26) = V := ⟨_, rfl⟩
    have HD := Lib.hid (show V2.heap[w2.heap.size]? = some (.cells #[.int .i64 0, .int .i64 0, .int .i64 0, .string ⟨#[]⟩, .slice none 0 0] 26 (0, 0)) from by
      rw [← hV]
      show (w2.heap.push _)[w2.heap.size]? = _
      rw [Array.getElem?_push, if_pos rfl])
    have f2 : Fuw w2 V2 := by rw [← hV]; exact (Fuw.refl w2).alloc _
    rw [hV]
    clear hV
    have HF := Lib.hid (Fuw.trans HF.out f2)
    have HB := Lib.hid (bz_on HB.out f2)
    clear f2
    obtain ⟨x0, x1, x2, x3, x4, xf, xl⟩ := five_cells HB.out
    obtain ⟨y0, y1, y2, y3, y4, yf, yl⟩ := five_cells HD.out
    clear xf yf
    go_wp2_with fail
    go_at_call 7; refine (HO.out _).mono ?_; rintro e3 w3 ⟨rfl, f3⟩
    have HF := Lib.hid (Fuw.trans HF.out f3)
    clear f3 x0 x1 x2 x3 x4 xl y0 y1 y2 y3 y4 yl
    go_wp2_with fail
    go_at_call 4; refine (HL.out _ HF.out).mono ?_; rintro e9 w9 ⟨rfl, f9⟩
    go_wp2
    go_ret
    exact ⟨rfl, Fuw.trans HF.out f9⟩
end Go.Proofs.YtehmdeponbhhjaaDoor

/-! What the cards of package codec's statements have in common: from the listed table's condition to the walks (Good5); a start that meets it; an argument that is a slice of bytes, opened to the list that it holds. No statement is proved here. -/
namespace Go.Proofs.YtehmdeponbhhjaaDoor
open Go.ChangeShapes Go.WideShapes Go.ChangeAt Go.RowKit Go.Joins

theorem own : ownKnob Tryd.prog.godebug = none := by kernel_rfl
theorem laidOut : laidOutB Tryd.prog = true := by kernel_rfl
def laidC : List (String × DataW Unit) := [("graphdb/codec.halfSums", Rows.laid_graphdb_codec_halfSums)]
theorem laid_plain (W : World) : laidMetH Tryd.prog laidC W = laidMet Tryd.prog laidC W := MakeChecks.laidMetH_plain _ _ _ (by kernel_rfl)
/-- A world in which the listed table is laid. -/
theorem lay_met (os : Os) (args : Array Value) : laidMetH Tryd.prog laidC ((World.laidAll Tryd.prog os laidC).forCall (fun _ _ => 0) ⟨#[], args, []⟩).memory := by
  rw [laid_plain]
  exact laidMet_laidAll _ (by kernel_rfl) (by kernel_rfl)
theorem halfNamed : Tryd.prog.globalNamed "graphdb/codec.halfSums" = some 0 := by kernel_rfl
theorem cells32 : Tryd.prog.cellsOf 55 = 1 := by kernel_rfl
theorem cells16 : Tryd.prog.cellsOf 57 = 16 := by kernel_rfl
set_option maxHeartbeats 4000000 in
theorem half_var {W : World} (h : laidMetH Tryd.prog laidC W) : W.var? Tryd.prog "graphdb/codec.halfSums" = some (halfs.map fun (n : Nat) => Value.int .u32 (n : Int)).toArray := by
  rw [laid_plain] at h
  obtain ⟨ps, ⟨g, t, cs, fuel, p, q, hg, ht, hv, hd, _, _⟩, _⟩ := h
  obtain rfl := Option.some.inj (halfNamed.symm.trans hg)
  obtain rfl := Option.some.inj ((show (Tryd.prog.globals[0]?).map (·.type) = some 57 by kernel_rfl).symm.trans ht)
  obtain ⟨xs, m, _, ex, hlen, hl, hel⟩ := DataW.trod_array Tryd.underlying57 hd
  rw [cells16] at hlen
  obtain ⟨l⟩ := cs
  match l, hlen with
  | [a0, a1, a2, a3, a4, a5, a6, a7, a8, a9, a10, a11, a12, a13, a14, a15], _ =>
    match xs, hl with
    | [x0, x1, x2, x3, x4, x5, x6, x7, x8, x9, x10, x11, x12, x13, x14, x15], _ =>
      have e3 := (DataW.agg.inj (Prod.mk.inj ex).1)
      simp only [List.map_cons, List.map_nil, List.cons.injEq, and_true] at e3
      have k0 := hel 0 (by omega)
      have k1 := hel 1 (by omega)
      have k2 := hel 2 (by omega)
      have k3 := hel 3 (by omega)
      have k4 := hel 4 (by omega)
      have k5 := hel 5 (by omega)
      have k6 := hel 6 (by omega)
      have k7 := hel 7 (by omega)
      have k8 := hel 8 (by omega)
      have k9 := hel 9 (by omega)
      have k10 := hel 10 (by omega)
      have k11 := hel 11 (by omega)
      have k12 := hel 12 (by omega)
      have k13 := hel 13 (by omega)
      have k14 := hel 14 (by omega)
      have k15 := hel 15 (by omega)
      rw [cells32] at k0 k1 k2 k3 k4 k5 k6 k7 k8 k9 k10 k11 k12 k13 k14 k15
      obtain ⟨z0, p0, q0, _⟩ := DataW.trod_int Tryd.underlying55 k0
      obtain ⟨z1, p1, q1, _⟩ := DataW.trod_int Tryd.underlying55 k1
      obtain ⟨z2, p2, q2, _⟩ := DataW.trod_int Tryd.underlying55 k2
      obtain ⟨z3, p3, q3, _⟩ := DataW.trod_int Tryd.underlying55 k3
      obtain ⟨z4, p4, q4, _⟩ := DataW.trod_int Tryd.underlying55 k4
      obtain ⟨z5, p5, q5, _⟩ := DataW.trod_int Tryd.underlying55 k5
      obtain ⟨z6, p6, q6, _⟩ := DataW.trod_int Tryd.underlying55 k6
      obtain ⟨z7, p7, q7, _⟩ := DataW.trod_int Tryd.underlying55 k7
      obtain ⟨z8, p8, q8, _⟩ := DataW.trod_int Tryd.underlying55 k8
      obtain ⟨z9, p9, q9, _⟩ := DataW.trod_int Tryd.underlying55 k9
      obtain ⟨z10, p10, q10, _⟩ := DataW.trod_int Tryd.underlying55 k10
      obtain ⟨z11, p11, q11, _⟩ := DataW.trod_int Tryd.underlying55 k11
      obtain ⟨z12, p12, q12, _⟩ := DataW.trod_int Tryd.underlying55 k12
      obtain ⟨z13, p13, q13, _⟩ := DataW.trod_int Tryd.underlying55 k13
      obtain ⟨z14, p14, q14, _⟩ := DataW.trod_int Tryd.underlying55 k14
      obtain ⟨z15, p15, q15, _⟩ := DataW.trod_int Tryd.underlying55 k15
      rw [q0, q1, q2, q3, q4, q5, q6, q7, q8, q9, q10, q11, q12, q13, q14, q15] at e3
      simp only [DataW.lit.injEq, Lit.int.injEq, true_and] at e3
      obtain ⟨r0, r1, r2, r3, r4, r5, r6, r7, r8, r9, r10, r11, r12, r13, r14, r15⟩ := e3
      replace p0 : a0 = .int .u32 z0 := by simpa using p0
      replace p1 : a1 = .int .u32 z1 := by simpa using p1
      replace p2 : a2 = .int .u32 z2 := by simpa using p2
      replace p3 : a3 = .int .u32 z3 := by simpa using p3
      replace p4 : a4 = .int .u32 z4 := by simpa using p4
      replace p5 : a5 = .int .u32 z5 := by simpa using p5
      replace p6 : a6 = .int .u32 z6 := by simpa using p6
      replace p7 : a7 = .int .u32 z7 := by simpa using p7
      replace p8 : a8 = .int .u32 z8 := by simpa using p8
      replace p9 : a9 = .int .u32 z9 := by simpa using p9
      replace p10 : a10 = .int .u32 z10 := by simpa using p10
      replace p11 : a11 = .int .u32 z11 := by simpa using p11
      replace p12 : a12 = .int .u32 z12 := by simpa using p12
      replace p13 : a13 = .int .u32 z13 := by simpa using p13
      replace p14 : a14 = .int .u32 z14 := by simpa using p14
      replace p15 : a15 = .int .u32 z15 := by simpa using p15
      rw [hv, p0, p1, p2, p3, p4, p5, p6, p7, p8, p9, p10, p11, p12, p13, p14, p15, ← r0, ← r1, ← r2, ← r3, ← r4, ← r5, ← r6, ← r7, ← r8, ← r9, ← r10, ← r11, ← r12, ← r13, ← r14, ← r15]
      rfl
theorem good5_of {W : World} (h : laidMetH Tryd.prog laidC W) : Good5 W := by
  have hc := fun j => World.var?_cell halfNamed (half_var h) j
  have hat : ∀ j, j < 16 → W.cell? ⟨0, j, none⟩ = some (.int .u32 ((halfs.getD j 0 : Nat) : Int)) := fun j hj => by
    rw [hc j]
    have hj' : j < halfs.length := hj
    simp [List.getElem?_map, List.getElem?_eq_getElem hj', List.getD_eq_getElem?_getD]
  exact ⟨World.block_lt_of_cell? W _ (hat 0 (by decide)), hat⟩
theorem cells8 : Tryd.prog.cellsOf 5 = 1 := by kernel_rfl
theorem open_byt {H : Type} {enc : TypeId × Value → H} {W : World} {a0 : Option Addr} {len cap : Nat} {d : DataW H} {p : List MemPlace}
    (h : DataW.Trod enc Tryd.prog W 0 (fun _ => true) true 22 (.slice a0 len cap) d p) : ∃ l : List UInt8, l.length = len ∧ IsB W a0 l cap := by
  obtain ⟨fuel, hf⟩ := h
  rcases open_ints Tryd.underlying22 Tryd.underlying5 cells8 hf with ⟨hcs, hx⟩ | ⟨a, len', cap', zs, hcs, _, hl, hm, hz, hx, hcell, hwz⟩
  · simp [Value.cells] at hcs
    obtain ⟨rfl, rfl, rfl⟩ := hcs
    exact ⟨[], rfl, IsB.empty _⟩
  · simp [Value.cells] at hcs
    obtain ⟨rfl, rfl, rfl⟩ := hcs
    simp only [if_true] at hz
    have hlen : ((zs.take len).map fun z => (z.toNat.toUInt8)).length = len := by rw [List.length_map, List.length_take]; omega
    refine ⟨(zs.take len).map fun z => (z.toNat.toUInt8), hlen, by omega, hm, (fun e => by cases e), fun hp => ?_⟩
    obtain ⟨b, off, rfl, hc⟩ := ints_at hcell (by omega)
    refine ⟨b, off, rfl, ?_, fun j hj => ?_⟩
    · have k := hc 0 (by omega)
      simpa using World.block_lt_of_cell? W _ k
    · rw [hlen] at hj
      rw [hc j (by omega)]
      have hjz : j < zs.length := by omega
      have hw := hwz zs[j] (List.getElem_mem hjz)
      have hb : 0 ≤ zs[j] ∧ zs[j] ≤ 255 := by
        simp [Lit.wf, IntKind.min, IntKind.max, IntKind.signed, IntKind.bits] at hw
        omega
      have e1 : zs.getD j 0 = zs[j] := by rw [List.getD_eq_getElem?_getD, List.getElem?_eq_getElem hjz]; rfl
      have e2 : ((zs.take len).map fun z => (z.toNat.toUInt8)).getD j 0 = (zs[j]).toNat.toUInt8 := by
        rw [List.getD_eq_getElem?_getD, List.getElem?_map, List.getElem?_take_of_lt hj, List.getElem?_eq_getElem hjz]; rfl
      rw [e1, e2, Lib.toUInt8_toNat (by omega)]
      congr 2
      omega
theorem open_bytes {H : Type} {enc : TypeId × Value → H} {W : World} {v : Value} {base : Nat} {d : DataW H} {p : List MemPlace} (hv : Value.okWide Tryd.prog W .any base 22 v)
    (h : DataW.Trod enc Tryd.prog W 0 (fun _ => true) true 22 v d p) : ∃ (a0 : Option Addr) (l : List UInt8) (cap : Nat), v = .slice a0 l.length cap ∧ IsB W a0 l cap := by
  obtain ⟨a0, n, cap, rfl⟩ := okWide_slice Tryd.underlying22 hv
  obtain ⟨l, rfl, hI⟩ := open_byt h
  exact ⟨a0, l, cap, rfl, hI⟩
theorem i64_of {n : Int} (h : (Lit.int .i64 n).wf = true) : -9223372036854775808 ≤ n ∧ n ≤ 9223372036854775807 := by
  simp [Lit.wf, IntKind.min, IntKind.max, IntKind.signed, IntKind.bits] at h
  omega
theorem u8_of {n : Int} (h : (Lit.int .u8 n).wf = true) : 0 ≤ n ∧ n ≤ 255 := by
  simp [Lit.wf, IntKind.min, IntKind.max, IntKind.signed, IntKind.bits] at h
  omega
end Go.Proofs.YtehmdeponbhhjaaDoor
