/-
  The law GraphLooks of package graph, walked.
-/
import Derived.Test.YtcadeijloobbmaaGrYC
import Derived.Test.YtcadeijloobbmaaGrS
import Derived.Test.YtcadeijloobbmaaGrQ
namespace Go.Proofs.Ytcadeijloobbmaa
open Go.RowKit

theorem slN_one {w : World} {B : Nat} {n : Nd} {al ap : Option Addr} {cl cp : Nat} {t : TypeId} (h : Bk w B #[.int .i64 n.id, .slice al n.ls.length cl, .slice ap n.ps.length cp] t) (hn : NdIn w n al ap cl cp) : SlN w (some ⟨B, 0, none⟩) [n] 1 := by
  refine ⟨Nat.le_refl _, m1, (fun h => by cases h), fun _ => ⟨B, 0, rfl, fun i hi => ?_⟩⟩
  have hi' : i < 1 := hi
  obtain rfl : i = 0 := by omega
  exact ⟨hn.1, h.c 0, ⟨al, cl, h.c 1, hn.2.1⟩, ap, cp, h.c 2, hn.2.2⟩
theorem slE_one {w : World} {B : Nat} {e : Ed} {ap : Option Addr} {cp : Nat} {t : TypeId} (h : Bk w B #[.int .i64 e.id, .int .i64 e.fr, .int .i64 e.to, .string (bs e.ty), .slice ap e.ps.length cp] t) (he : EdIn w e ap cp) : SlE w (some ⟨B, 0, none⟩) [e] 1 := by
  refine ⟨Nat.le_refl _, m1, (fun h => by cases h), fun _ => ⟨B, 0, rfl, fun i hi => ?_⟩⟩
  have hi' : i < 1 := hi
  obtain rfl : i = 0 := by omega
  obtain ⟨h1, h2, h3, h4, h5⟩ := he
  exact ⟨h1, h2, h3, h4, h.c 0, h.c 1, h.c 2, h.c 3, ap, cp, h.c 4, h5⟩
theorem slS_one {w : World} {B : Nat} {s : List UInt8} {t : TypeId} (h : Bk w B #[.string (bs s)] t) (hs : s.length ≤ maxLen) : SlS w (some ⟨B, 0, none⟩) [s] 1 := by
  refine ⟨Nat.le_refl _, m1, (fun h => by cases h), fun _ => ⟨B, 0, rfl, fun i hi => ?_⟩⟩
  have hi' : i < 1 := hi
  obtain rfl : i = 0 := by omega
  exact ⟨hs, h.c 0⟩
theorem hasT_one (ty k : List UInt8) : hasT ty [k] = ((bs k).toList == (bs ty).toList) := by
  rw [bs_eq]
  simp [hasT, hasS]
set_option maxRecDepth 100000 in
theorem parts_call (n : Nd) (e : Ed) (al ap bl bp ep xp : Option Addr) (cl cp dl dp kp yp : Nat) (W5 : World) (h1 : NdIn W5 n al ap cl cp) (h2 : NdIn W5 n bl bp dl dp) (h3 : EdIn W5 e ep kp) (h4 : EdIn W5 e xp yp) :
    Calls Try.prog 13 #[.agg #[.slice (some ⟨W5.heap.size, 0, none⟩) 1 1, .slice (some ⟨W5.heap.size + 1, 0, none⟩) 1 1, .int .i64 0, .int .i64 0], .agg #[.slice (some ⟨W5.heap.size + 1 + 1, 0, none⟩) 1 1, .slice (some ⟨W5.heap.size + 1 + 1 + 1, 0, none⟩) 1 1, .int .i64 0, .int .i64 0]] ((((W5.alloc (.cells #[.int .i64 n.id, .slice al n.ls.length cl, .slice ap n.ps.length cp] 31)).alloc (.cells #[.int .i64 e.id, .int .i64 e.fr, .int .i64 e.to, .string (bs e.ty), .slice ep e.ps.length kp] 35)).alloc (.cells #[.int .i64 n.id, .slice bl n.ls.length dl, .slice bp n.ps.length dp] 31)).alloc (.cells #[.int .i64 e.id, .int .i64 e.fr, .int .i64 e.to, .string (bs e.ty), .slice xp e.ps.length yp] 35)) (FwB ((((W5.alloc (.cells #[.int .i64 n.id, .slice al n.ls.length cl, .slice ap n.ps.length cp] 31)).alloc (.cells #[.int .i64 e.id, .int .i64 e.fr, .int .i64 e.to, .string (bs e.ty), .slice ep e.ps.length kp] 35)).alloc (.cells #[.int .i64 n.id, .slice bl n.ls.length dl, .slice bp n.ps.length dp] 31)).alloc (.cells #[.int .i64 e.id, .int .i64 e.fr, .int .i64 e.to, .string (bs e.ty), .slice xp e.ps.length yp] 35)) true) := by
  have a1 : Fuw W5 (W5.alloc (.cells #[.int .i64 n.id, .slice al n.ls.length cl, .slice ap n.ps.length cp] 31)) := fuwA _ _
  have p1 : Bk (W5.alloc (.cells #[.int .i64 n.id, .slice al n.ls.length cl, .slice ap n.ps.length cp] 31)) W5.heap.size _ _ := Bk.new _ _ _
  have s1 : (W5.alloc (.cells #[.int .i64 n.id, .slice al n.ls.length cl, .slice ap n.ps.length cp] 31)).heap.size = W5.heap.size + 1 := by simp
  generalize (W5.alloc (.cells #[.int .i64 n.id, .slice al n.ls.length cl, .slice ap n.ps.length cp] 31)) = V1 at *
  have a2 : Fuw V1 (V1.alloc (.cells #[.int .i64 e.id, .int .i64 e.fr, .int .i64 e.to, .string (bs e.ty), .slice ep e.ps.length kp] 35)) := fuwA _ _
  have p2 : Bk (V1.alloc (.cells #[.int .i64 e.id, .int .i64 e.fr, .int .i64 e.to, .string (bs e.ty), .slice ep e.ps.length kp] 35)) V1.heap.size _ _ := Bk.new _ _ _
  have s2 : (V1.alloc (.cells #[.int .i64 e.id, .int .i64 e.fr, .int .i64 e.to, .string (bs e.ty), .slice ep e.ps.length kp] 35)).heap.size = V1.heap.size + 1 := by simp
  generalize V1.alloc (.cells #[.int .i64 e.id, .int .i64 e.fr, .int .i64 e.to, .string (bs e.ty), .slice ep e.ps.length kp] 35) = V2 at *
  have a3 : Fuw V2 (V2.alloc (.cells #[.int .i64 n.id, .slice bl n.ls.length dl, .slice bp n.ps.length dp] 31)) := fuwA _ _
  have p3 : Bk (V2.alloc (.cells #[.int .i64 n.id, .slice bl n.ls.length dl, .slice bp n.ps.length dp] 31)) V2.heap.size _ _ := Bk.new _ _ _
  have s3 : (V2.alloc (.cells #[.int .i64 n.id, .slice bl n.ls.length dl, .slice bp n.ps.length dp] 31)).heap.size = V2.heap.size + 1 := by simp
  generalize V2.alloc (.cells #[.int .i64 n.id, .slice bl n.ls.length dl, .slice bp n.ps.length dp] 31) = V3 at *
  have a4 : Fuw V3 (V3.alloc (.cells #[.int .i64 e.id, .int .i64 e.fr, .int .i64 e.to, .string (bs e.ty), .slice xp e.ps.length yp] 35)) := fuwA _ _
  have p4 : Bk (V3.alloc (.cells #[.int .i64 e.id, .int .i64 e.fr, .int .i64 e.to, .string (bs e.ty), .slice xp e.ps.length yp] 35)) V3.heap.size _ _ := Bk.new _ _ _
  generalize V3.alloc (.cells #[.int .i64 e.id, .int .i64 e.fr, .int .i64 e.to, .string (bs e.ty), .slice xp e.ps.length yp] 35) = V4 at *
  rw [s3, s2, s1] at p4
  rw [s2, s1] at p3
  rw [s1] at p2
  exact sparts_eq [n] [e] _ _ _ _ 1 1 1 1 0 0 0 0 V4 (slN_one (((p1.on a2).on a3).on a4) (h1.on (((a1.trans a2).trans a3).trans a4))) (slE_one ((p2.on a3).on a4) (h3.on (((a1.trans a2).trans a3).trans a4))) (slN_one (p3.on a4) (h2.on (((a1.trans a2).trans a3).trans a4))) (slE_one p4 (h4.on (((a1.trans a2).trans a3).trans a4)))
set_option maxHeartbeats 12800000 in
set_option maxRecDepth 100000 in
theorem looks_walk (g : Gr) (an ae : Option Addr) (cn ce : Nat) (id : Int) (s : ByteArray) (w : World) (hg : GIn w g an ae cn ce) (hs : s.size ≤ maxLen) :
    Calls Try.prog 3 #[grv g an ae cn ce, .int .i64 id, .string s] w (FwB w true) := by
  have hm := hs
  unfold maxLen at hm
  have HG := Lib.hid hg
  have HS := Lib.hid (fun w' (hf : Fuw w w') => small_any g an ae cn ce 60 100 w' (HG.out.on hf))
  have HA := Lib.hid alive_any
  have CN := Lib.hid (fun w' (hf : Fuw w w') => lnode_any g an ae cn ce id w' (HG.out.on hf))
  have CM := Lib.hid (fun w' (hf : Fuw w w') => rnode_any g an ae cn ce id w' (HG.out.on hf))
  have CE := Lib.hid (fun w' (hf : Fuw w w') => ledge_any g an ae cn ce id w' (HG.out.on hf))
  have CX := Lib.hid (fun w' (hf : Fuw w w') => redge_any g an ae cn ce id w' (HG.out.on hf))
  clear hg
  unfold grv at *
  have f0 := fuwA w (.cells #[.slice an g.ns.length cn, .slice ae g.es.length ce, .int .i64 g.nn, .int .i64 g.ne] 25)
  have p0 := GB.new w g an ae cn ce
  have F0 := Lib.hid f0
  go_enter Try.func3, Try.ntmps3
  go_wp2_with fail
  go_at_call 7; refine (HS.out _ F0.out).mono ?_; rintro e1 w1 ⟨rfl, f1⟩
  have F1 := Lib.hid (F0.out.trans f1)
  have P1 := Lib.hid (p0.on f1)
  clear f0 p0 f1
  cases hsm : smlV g 60 100 with
  | false =>
    clear hsm
    go_wp2_with fail
    go_at_call 8; refine (HA.out _).mono ?_; rintro e2 w2 ⟨rfl, f2⟩
    go_wp2
    go_ret
    exact ⟨rfl, F1.out.trans f2⟩
  | true =>
    clear hsm
    by_cases h200 : (200 : Int) < (s.size : Int)
    · go_wp2_with fail
      go_at_call 8; refine (HA.out _).mono ?_; rintro e2 w2 ⟨rfl, f2⟩
      go_wp2
      go_ret
      exact ⟨rfl, F1.out.trans f2⟩
    · have q0 := P1.out.c0; have q1 := P1.out.c1; have q2 := P1.out.c2; have q3 := P1.out.c3
      go_wp2_with fail
      clear q0 q1 q2 q3
      go_at_call 9; refine (CN.out _ F1.out).mono ?_; rintro e2 w2 ⟨al, ap, cl, cp, rfl, hn, f2⟩
      obtain ⟨n, hN⟩ : ∃ n, n = (nodV g.ns id).getD nilN := ⟨_, rfl⟩
      obtain ⟨bn, hBN⟩ : ∃ b, b = (nodV g.ns id).isSome := ⟨_, rfl⟩
      unfold RetN at CM
      rw [← hN] at hn
      rw [← hN, ← hBN]
      rw [← hN, ← hBN] at CM
      clear hN hBN
      unfold ndv at *
      go_upto_region 4 with fail
      obtain ⟨W2, hW2⟩ : ∃ W, W = w2.alloc (.cells #[.int .i64 n.id, .slice al n.ls.length cl, .slice ap n.ps.length cp] 31) := ⟨_, rfl⟩
      have fA : Fuw w2 W2 := by rw [hW2]; exact fuwA _ _
      have KN := Lib.hid (show Bk W2 w2.heap.size #[.int .i64 n.id, .slice al n.ls.length cl, .slice ap n.ps.length cp] 31 by rw [hW2]; exact Bk.new _ _ _)
      rw [← hW2]
      have N2 := Lib.hid (hn.on fA)
      have P2 := Lib.hid (P1.out.on (f2.trans fA))
      have F2 := Lib.hid (F1.out.trans (f2.trans fA))
      clear hW2 fA hn f2
      have q0 := P2.out.c0; have q1 := P2.out.c1; have q2 := P2.out.c2; have q3 := P2.out.c3
      go_wp2_with fail
      clear q0 q1 q2 q3
      go_at_call 10; refine (CM.out _ F2.out).mono ?_; rintro e3 w3 ⟨bl, bp, dl, dp, rfl, hn, f3⟩
      go_upto_region 5 with fail
      obtain ⟨W3, hW3⟩ : ∃ W, W = w3.alloc (.cells #[.int .i64 n.id, .slice bl n.ls.length dl, .slice bp n.ps.length dp] 31) := ⟨_, rfl⟩
      have fA : Fuw w3 W3 := by rw [hW3]; exact fuwA _ _
      have KM := Lib.hid (show Bk W3 w3.heap.size #[.int .i64 n.id, .slice bl n.ls.length dl, .slice bp n.ps.length dp] 31 by rw [hW3]; exact Bk.new _ _ _)
      rw [← hW3]
      have M3 := Lib.hid (hn.on fA)
      have P3 := Lib.hid (P2.out.on (f3.trans fA))
      have N3 := Lib.hid (N2.out.on (f3.trans fA))
      have KN3 := Lib.hid (KN.out.on (f3.trans fA))
      have F3 := Lib.hid (F2.out.trans (f3.trans fA))
      clear hW3 fA hn f3 KN N2 P2 F2 CM CN
      have q0 := P3.out.c0; have q1 := P3.out.c1; have q2 := P3.out.c2; have q3 := P3.out.c3
      generalize w2.heap.size = B1 at *
      go_wp2_with fail
      clear q0 q1 q2 q3
      go_at_call 11; refine (CE.out _ F3.out).mono ?_; rintro e4 w4 ⟨ep, kp, rfl, he, f4⟩
      obtain ⟨e, hE⟩ : ∃ e, e = (edgV g.es id).getD nilE := ⟨_, rfl⟩
      obtain ⟨be, hBE⟩ : ∃ b, b = (edgV g.es id).isSome := ⟨_, rfl⟩
      unfold RetE at CX
      rw [← hE] at he
      rw [← hE, ← hBE]
      rw [← hE, ← hBE] at CX
      clear hE hBE
      unfold edv at *
      go_upto_region 6 with fail
      obtain ⟨W4, hW4⟩ : ∃ W, W = w4.alloc (.cells #[.int .i64 e.id, .int .i64 e.fr, .int .i64 e.to, .string (bs e.ty), .slice ep e.ps.length kp] 35) := ⟨_, rfl⟩
      have fA : Fuw w4 W4 := by rw [hW4]; exact fuwA _ _
      have KE := Lib.hid (show Bk W4 w4.heap.size #[.int .i64 e.id, .int .i64 e.fr, .int .i64 e.to, .string (bs e.ty), .slice ep e.ps.length kp] 35 by rw [hW4]; exact Bk.new _ _ _)
      rw [← hW4]
      have E4 := Lib.hid (he.on fA)
      have P4 := Lib.hid (P3.out.on (f4.trans fA))
      have N4 := Lib.hid (N3.out.on (f4.trans fA))
      have M4 := Lib.hid (M3.out.on (f4.trans fA))
      have KN4 := Lib.hid (KN3.out.on (f4.trans fA))
      have KM4 := Lib.hid (KM.out.on (f4.trans fA))
      have F4 := Lib.hid (F3.out.trans (f4.trans fA))
      clear hW4 fA he f4 KN3 KM N3 M3 P3 F3 CE
      have q0 := P4.out.c0; have q1 := P4.out.c1; have q2 := P4.out.c2; have q3 := P4.out.c3
      generalize w3.heap.size = B2 at *
      go_wp2_with fail
      clear q0 q1 q2 q3
      go_at_call 12; refine (CX.out _ F4.out).mono ?_; rintro e5 w5 ⟨xp, yp, rfl, he, f5⟩
      go_upto_region 7 with fail
      obtain ⟨W5, hW5⟩ : ∃ W, W = w5.alloc (.cells #[.int .i64 e.id, .int .i64 e.fr, .int .i64 e.to, .string (bs e.ty), .slice xp e.ps.length yp] 35) := ⟨_, rfl⟩
      have fA : Fuw w5 W5 := by rw [hW5]; exact fuwA _ _
      have KX := Lib.hid (show Bk W5 w5.heap.size #[.int .i64 e.id, .int .i64 e.fr, .int .i64 e.to, .string (bs e.ty), .slice xp e.ps.length yp] 35 by rw [hW5]; exact Bk.new _ _ _)
      rw [← hW5]
      have X5 := Lib.hid (he.on fA)
      have E5 := Lib.hid (E4.out.on (f5.trans fA))
      have N5 := Lib.hid (N4.out.on (f5.trans fA))
      have M5 := Lib.hid (M4.out.on (f5.trans fA))
      have KN5 := Lib.hid (KN4.out.on (f5.trans fA))
      have KM5 := Lib.hid (KM4.out.on (f5.trans fA))
      have KE5 := Lib.hid (KE.out.on (f5.trans fA))
      have F5 := Lib.hid (F4.out.trans (f5.trans fA))
      clear hW5 fA he f5 KN4 KM4 KE N4 M4 E4 P4 F4 CX
      generalize w4.heap.size = B3 at *
      generalize w5.heap.size = B4 at *
      have b1 : (bn != bn) = false := by simp
      have b2 : (be != be) = false := by simp
      have n0 := KN5.out.c 0; have n1 := KN5.out.c 1; have n2 := KN5.out.c 2
      have a1 : Fuw W5 (W5.alloc (.cells #[.int .i64 n.id, .slice al n.ls.length cl, .slice ap n.ps.length cp] 31)) := fuwA _ _
      have a2 : Fuw W5 ((W5.alloc (.cells #[.int .i64 n.id, .slice al n.ls.length cl, .slice ap n.ps.length cp] 31)).alloc (.cells #[.int .i64 e.id, .int .i64 e.fr, .int .i64 e.to, .string (bs e.ty), .slice ep e.ps.length kp] 35)) := a1.trans (fuwA _ _)
      have a3 : Fuw W5 (((W5.alloc (.cells #[.int .i64 n.id, .slice al n.ls.length cl, .slice ap n.ps.length cp] 31)).alloc (.cells #[.int .i64 e.id, .int .i64 e.fr, .int .i64 e.to, .string (bs e.ty), .slice ep e.ps.length kp] 35)).alloc (.cells #[.int .i64 n.id, .slice bl n.ls.length dl, .slice bp n.ps.length dp] 31)) := a2.trans (fuwA _ _)
      have a4 : Fuw W5 ((((W5.alloc (.cells #[.int .i64 n.id, .slice al n.ls.length cl, .slice ap n.ps.length cp] 31)).alloc (.cells #[.int .i64 e.id, .int .i64 e.fr, .int .i64 e.to, .string (bs e.ty), .slice ep e.ps.length kp] 35)).alloc (.cells #[.int .i64 n.id, .slice bl n.ls.length dl, .slice bp n.ps.length dp] 31)).alloc (.cells #[.int .i64 e.id, .int .i64 e.fr, .int .i64 e.to, .string (bs e.ty), .slice xp e.ps.length yp] 35)) := a3.trans (fuwA _ _)
      have x0 := (KE5.out.on a1).c 0
      have x1 := (KE5.out.on a1).c 1
      have x2 := (KE5.out.on a1).c 2
      have x3 := (KE5.out.on a1).c 3
      have x4 := (KE5.out.on a1).c 4
      have k0 := (KM5.out.on a2).c 0
      have k1 := (KM5.out.on a2).c 1
      have k2 := (KM5.out.on a2).c 2
      have y0 := (KX.out.on a3).c 0
      have y1 := (KX.out.on a3).c 1
      have y2 := (KX.out.on a3).c 2
      have y3 := (KX.out.on a3).c 3
      have y4 := (KX.out.on a3).c 4
      have HP := Lib.hid (parts_call n e al ap bl bp ep xp cl cp dl dp kp yp W5 N5.out M5.out E5.out X5.out)
      have FA := Lib.hid a4
      clear a1 a2 a3 a4
      go_wp2_with fail
      clear x0 x1 x2 x3 x4 k0 k1 k2 y0 y1 y2 y3 y4 n0 n1 n2
      go_at_call 13; refine HP.out.mono ?_; rintro e6 w6 ⟨rfl, f6⟩
      have FT := Lib.hid (F5.out.trans (FA.out.trans f6))
      have GN := Lib.hid (KN5.out.on (FA.out.trans f6))
      have GM := Lib.hid (KM5.out.on (FA.out.trans f6))
      have GE := Lib.hid (KE5.out.on (FA.out.trans f6))
      have GX := Lib.hid (KX.out.on (FA.out.trans f6))
      obtain ⟨k, hk⟩ : ∃ k, s = bs k := ⟨_, bs_of s⟩
      have hkl : k.length ≤ maxLen := by rw [← bs_size, ← hk]; exact hs
      have N6 := Lib.hid (N5.out.on (FA.out.trans f6))
      have M6 := Lib.hid (M5.out.on (FA.out.trans f6))
      have C1 := Lib.hid (fun w' (hf : Fuw w6 w') => (show Calls Try.prog 14 #[.agg #[.int .i64 n.id, .slice al n.ls.length cl, .slice ap n.ps.length cp], .string s] w' (FwB w' (hasS n.ls k)) from by rw [hk]; exact lhasl_any n al ap cl cp k w' (slS_on hf N6.out.2.1)))
      have C2 := Lib.hid (fun w' (hf : Fuw w6 w') => (show Calls Try.prog 15 #[.agg #[.int .i64 n.id, .slice bl n.ls.length dl, .slice bp n.ps.length dp], .string s] w' (FwB w' (hasS n.ls k)) from by rw [hk]; exact rhasl_any n bl bp dl dp k w' (slS_on hf M6.out.2.1)))
      have C3 := Lib.hid (fun w' (_ : Fuw w6 w') => (show Calls Try.prog 16 #[.agg #[.int .i64 e.id, .int .i64 e.fr, .int .i64 e.to, .string (bs e.ty), .slice ep e.ps.length kp], .slice (some ⟨w'.heap.size, 0, none⟩) 1 1] (w'.alloc (.cells #[.string s] 9)) (FwB (w'.alloc (.cells #[.string s] 9)) (s.toList == (bs e.ty).toList)) from by
        have h := hast_any e ep kp [k] (some ⟨w'.heap.size, 0, none⟩) 1 (w'.alloc (.cells #[.string (bs k)] 9)) (slS_one (Bk.new _ _ _) hkl)
        rw [hasT_one] at h
        rw [hk]; exact h))
      have C4 := Lib.hid (fun w' (_ : Fuw w6 w') => (show Calls Try.prog 16 #[.agg #[.int .i64 e.id, .int .i64 e.fr, .int .i64 e.to, .string (bs e.ty), .slice ep e.ps.length kp], .slice none 0 0] w' (FwB w' true) from hast_any e ep kp [] none 0 w' (Sl.empty _)))
      have C5 := Lib.hid (fun w' (hf : Fuw w6 w') => (show Calls Try.prog 18 #[.slice ap n.ps.length cp, .string s] w' (RetP w' (prpV n.ps k)) from by rw [hk]; exact lprop_any n.ps ap cp k w' (slP_on hf N6.out.2.2)))
      have C6 := Lib.hid (fun w' (hf : Fuw w6 w') => (show Calls Try.prog 19 #[.slice bp n.ps.length dp, .string s] w' (RetP w' (prpV n.ps k)) from by rw [hk]; exact rprop_any n.ps bp dp k w' (slP_on hf M6.out.2.2)))
      have C7 := Lib.hid (fun (x : Vl) ao bo ca cb w' (hx : Vin x) (h1 : SlV w' ao x.ll ca) (h2 : SlV w' bo x.ll cb) => (show Calls Try.prog 17 #[vlv x ao ca, vlv x bo cb] w' (RwI w' 0) from by
        have h := rorder_all x x ao bo ca cb w' hx hx h1 h2
        rwa [ord_self] at h))
      obtain ⟨c, hc⟩ : ∃ c, (s.toList == (bs e.ty).toList) = c := ⟨_, rfl⟩
      rw [hc] at C3
      generalize hasS n.ls k = r at *
      generalize prpV n.ps k = x at *
      have hr2 : (r == r) = true := by simp
      have hc2 : (c == c) = true := by simp
      clear hk hkl HP FA f6 KN5 KM5 KE5 KX N5 M5 E5 X5 F5 HG HS
      go_upto_region 9 with fail
      have HSS := Lib.hid (fun w' (ff : Fuw w6 w') => (show w'.cell? ⟨B1, 0, none⟩ = some (.int .i64 n.id) ∧ w'.cell? ⟨B1, 1, none⟩ = some (.slice al n.ls.length cl) ∧ w'.cell? ⟨B1, 2, none⟩ = some (.slice ap n.ps.length cp) ∧ w'.cell? ⟨B2, 0, none⟩ = some (.int .i64 n.id) ∧ w'.cell? ⟨B2, 1, none⟩ = some (.slice bl n.ls.length dl) ∧ w'.cell? ⟨B2, 2, none⟩ = some (.slice bp n.ps.length dp) ∧ w'.cell? ⟨B3, 0, none⟩ = some (.int .i64 e.id) ∧ w'.cell? ⟨B3, 1, none⟩ = some (.int .i64 e.fr) ∧ w'.cell? ⟨B3, 2, none⟩ = some (.int .i64 e.to) ∧ w'.cell? ⟨B3, 3, none⟩ = some (.string (bs e.ty)) ∧ w'.cell? ⟨B3, 4, none⟩ = some (.slice ep e.ps.length kp) ∧ w'.cell? ⟨B4, 0, none⟩ = some (.int .i64 e.id) ∧ w'.cell? ⟨B4, 1, none⟩ = some (.int .i64 e.fr) ∧ w'.cell? ⟨B4, 2, none⟩ = some (.int .i64 e.to) ∧ w'.cell? ⟨B4, 3, none⟩ = some (.string (bs e.ty)) ∧ w'.cell? ⟨B4, 4, none⟩ = some (.slice xp e.ps.length yp) from ⟨(GN.out.on ff).c 0, (GN.out.on ff).c 1, (GN.out.on ff).c 2, (GM.out.on ff).c 0, (GM.out.on ff).c 1, (GM.out.on ff).c 2, (GE.out.on ff).c 0, (GE.out.on ff).c 1, (GE.out.on ff).c 2, (GE.out.on ff).c 3, (GE.out.on ff).c 4, (GX.out.on ff).c 0, (GX.out.on ff).c 1, (GX.out.on ff).c 2, (GX.out.on ff).c 3, (GX.out.on ff).c 4⟩))
      have ff : Fuw w6 w6.drew := Fuw.drew (Fuw.refl w6)
      go_region_held3 (fun w' => w'.cell? ⟨B1, 0, none⟩ = some (.int .i64 n.id) ∧ w'.cell? ⟨B1, 1, none⟩ = some (.slice al n.ls.length cl) ∧ w'.cell? ⟨B1, 2, none⟩ = some (.slice ap n.ps.length cp) ∧ w'.cell? ⟨B2, 0, none⟩ = some (.int .i64 n.id) ∧ w'.cell? ⟨B2, 1, none⟩ = some (.slice bl n.ls.length dl) ∧ w'.cell? ⟨B2, 2, none⟩ = some (.slice bp n.ps.length dp) ∧ w'.cell? ⟨B3, 0, none⟩ = some (.int .i64 e.id) ∧ w'.cell? ⟨B3, 1, none⟩ = some (.int .i64 e.fr) ∧ w'.cell? ⟨B3, 2, none⟩ = some (.int .i64 e.to) ∧ w'.cell? ⟨B3, 3, none⟩ = some (.string (bs e.ty)) ∧ w'.cell? ⟨B3, 4, none⟩ = some (.slice ep e.ps.length kp) ∧ w'.cell? ⟨B4, 0, none⟩ = some (.int .i64 e.id) ∧ w'.cell? ⟨B4, 1, none⟩ = some (.int .i64 e.fr) ∧ w'.cell? ⟨B4, 2, none⟩ = some (.int .i64 e.to) ∧ w'.cell? ⟨B4, 3, none⟩ = some (.string (bs e.ty)) ∧ w'.cell? ⟨B4, 4, none⟩ = some (.slice xp e.ps.length yp))
        (first | (with_reducible exact HSS.out _ ff) | (with_reducible exact HSS.out _ (ff.trans (fuwA _ _))))
        (first
          | (go_at_call 14; refine (C1.out _ ff).mono ?_; rintro g1 v1 ⟨rfl, j1⟩; replace ff := ff.trans j1)
          | (go_at_call 15; refine (C2.out _ ff).mono ?_; rintro g2 v2 ⟨rfl, j2⟩; replace ff := ff.trans j2)
          | (go_at_call 16; have hj := j3; refine (C4.out _ ff).mono ?_; rintro g4 v4 ⟨rfl, j4⟩; replace ff := ff.trans j4)
          | (go_at_call 16; refine (C3.out _ ff).mono ?_; rintro g3 v3 ⟨rfl, j3⟩; replace ff := (ff.trans (fuwA _ _)).trans j3)
          | (go_at_call 18; refine (C5.out _ ff).mono ?_; rintro g5 v5 ⟨ao1, ca1, rfl, hv, h1, j5⟩; replace ff := ff.trans j5)
          | (go_at_call 19; refine (C6.out _ ff).mono ?_; rintro g6 v6 ⟨ao2, ca2, rfl, hv2, h2, j6⟩; replace h1 := h1.onw j6; replace ff := ff.trans j6)
          | (go_at_call 17; refine (C7.out _ _ _ _ _ _ hv h1 h2).mono ?_; rintro g7 v7 ⟨rfl, j7⟩; replace ff := ff.trans j7)
          | (go_at_call 8; refine (HA.out _).mono ?_; rintro g8 v8 ⟨rfl, j8⟩; replace ff := ff.trans j8))
      all_goals
        go_wp2
        go_ret
        exact ⟨rfl, FT.out.trans ff⟩
end Go.Proofs.Ytcadeijloobbmaa
