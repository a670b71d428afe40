/-
  The reference of package graph: SameParts answers yes of equal nodes and edges, wherever these lie. What was there does not turn.
-/
import Derived.Test.YtcadeijloobbmaaGrYB
namespace Go.Proofs.Ytcadeijloobbmaa
open Go.RowKit

theorem cell_lt {w : World} {b o : Nat} {v : Value} (h : w.cell? ⟨b, o, none⟩ = some v) : b < w.heap.size := by
  rcases Nat.lt_or_ge b w.heap.size with k | k
  · exact k
  · simp [World.cell?, Array.getElem?_eq_none k] at h
set_option maxHeartbeats 12800000 in
set_option maxRecDepth 100000 in
theorem sparts_eq (ns : List Nd) (es : List Ed) (an ae bn be : Option Addr) (cn ce dn de : Nat) (x1 x2 y1 y2 : Int) (w : World) (h1 : SlN w an ns cn) (h2 : SlE w ae es ce) (h3 : SlN w bn ns dn) (h4 : SlE w be es de) :
    Calls Try.prog 13 #[.agg #[.slice an ns.length cn, .slice ae es.length ce, .int .i64 x1, .int .i64 x2], .agg #[.slice bn ns.length dn, .slice be es.length de, .int .i64 y1, .int .i64 y2]] w (FwB w true) := by
  have l1 := h1.len
  have l2 := h2.len
  have p0 := (Bk.new w #[.slice an ns.length cn, .slice ae es.length ce, .int .i64 x1, .int .i64 x2] 25).on (fuwA _ (.cells #[.slice bn ns.length dn, .slice be es.length de, .int .i64 y1, .int .i64 y2] 25))
  have p1 := bk2 w (.cells #[.slice an ns.length cn, .slice ae es.length ce, .int .i64 x1, .int .i64 x2] 25) #[.slice bn ns.length dn, .slice be es.length de, .int .i64 y1, .int .i64 y2] 25
  have f0 := (fuwA w (.cells #[.slice an ns.length cn, .slice ae es.length ce, .int .i64 x1, .int .i64 x2] 25)).trans (fuwA _ (.cells #[.slice bn ns.length dn, .slice be es.length de, .int .i64 y1, .int .i64 y2] 25))
  obtain ⟨w0, hw0⟩ : ∃ w0, w0 = (w.alloc (.cells #[.slice an ns.length cn, .slice ae es.length ce, .int .i64 x1, .int .i64 x2] 25)).alloc (.cells #[.slice bn ns.length dn, .slice be es.length de, .int .i64 y1, .int .i64 y2] 25) := ⟨_, rfl⟩
  rw [← hw0] at f0 p0 p1
  have HW0 := Lib.hid hw0
  have F0 := Lib.hid f0
  have P0 := Lib.hid p0
  have P1 := Lib.hid p1
  have H1 := Lib.hid (slN_on f0 h1)
  have H2 := Lib.hid (slE_on f0 h2)
  have H3 := Lib.hid (slN_on f0 h3)
  have H4 := Lib.hid (slE_on f0 h4)
  clear hw0 f0 p0 p1 h1 h2 h3 h4
  go_enter Try.func13, Try.ntmps13
  go_upto_region 1 with fail
  rw [← HW0.out]
  have q0 : w0.cell? ⟨w.heap.size, 0, none⟩ = some (.slice an ns.length cn) := P0.out.c 0
  have q1 : w0.cell? ⟨w.heap.size, 1, none⟩ = some (.slice ae es.length ce) := P0.out.c 1
  have r0 : w0.cell? ⟨w.heap.size + 1, 0, none⟩ = some (.slice bn ns.length dn) := P1.out.c 0
  have r1 : w0.cell? ⟨w.heap.size + 1, 1, none⟩ = some (.slice be es.length de) := P1.out.c 1
  go_wp2
  clear q0 q1 r0 r1
  go_loopw [5] (fun iv wr => ∃ i : Nat, iv = .int .i64 i ∧ i ≤ ns.length ∧ Hid (Fuw w0 wr)) (fun iv _ => ns.length - (RowKit.intOf iv).toNat)
  case atStart => exact ⟨0, rfl, Nat.zero_le _, Fuw.refl _⟩
  case round =>
    obtain ⟨i, rfl, hi, hf⟩ := hrel
    have q0 : wr.cell? ⟨w.heap.size, 0, none⟩ = some (.slice an ns.length cn) := (P0.out.on hf.out).c 0
    have q1 : wr.cell? ⟨w.heap.size, 1, none⟩ = some (.slice ae es.length ce) := (P0.out.on hf.out).c 1
    have r0 : wr.cell? ⟨w.heap.size + 1, 0, none⟩ = some (.slice bn ns.length dn) := (P1.out.on hf.out).c 0
    have r1 : wr.cell? ⟨w.heap.size + 1, 1, none⟩ = some (.slice be es.length de) := (P1.out.on hf.out).c 1
    by_cases hlt : i < ns.length
    · obtain ⟨b, o, rfl, i1, c0, ⟨al, cl, c1, sl⟩, ap, cp, c2, sp⟩ := (slN_on hf.out H1.out).get hlt
      obtain ⟨b', o', rfl, -, d0, ⟨bl, dl, d1, tl⟩, bp, dp, d2, tp⟩ := (slN_on hf.out H3.out).get hlt
      have CS := Lib.hid (fun w' (h : Fuw wr w') => sstr_eq ns[i].ls al bl cl dl w' (slS_on h sl) (slS_on h tl))
      have CP := Lib.hid (fun w' (h : Fuw wr w') => sprop_eq ns[i].ps ap bp cp dp w' (slP_on h sp) (slP_on h tp))
      clear sl tl sp tp i1
      generalize ns[i] = n at *
      have e1 : (n.id != n.id) = false := by simp
      go_upto_region 6 with fail
      have f0 : Fuw wr (wr.alloc (.cells #[.int .i64 0, .slice none 0 0, .slice none 0 0] 31)) := fuwA _ _
      have q0_0 := cellOnw f0 q0
      have r0_0 := cellOnw f0 r0
      have c0_0 := cellOnw f0 c0
      have c1_0 := cellOnw f0 c1
      have c2_0 := cellOnw f0 c2
      have d0_0 := cellOnw f0 d0
      have d1_0 := cellOnw f0 d1
      have d2_0 := cellOnw f0 d2
      have f1 : Fuw wr (wr.alloc (.cells #[.int .i64 n.id, .slice al n.ls.length cl, .slice ap n.ps.length cp] 31)) := fuwA _ _
      have q0_1 := cellOnw f1 q0
      have r0_1 := cellOnw f1 r0
      have c0_1 := cellOnw f1 c0
      have c1_1 := cellOnw f1 c1
      have c2_1 := cellOnw f1 c2
      have d0_1 := cellOnw f1 d0
      have d1_1 := cellOnw f1 d1
      have d2_1 := cellOnw f1 d2
      have f2 : Fuw wr (wr.alloc (.cells #[.int .i64 n.id, .slice bl n.ls.length dl, .slice bp n.ps.length dp] 31)) := fuwA _ _
      have q0_2 := cellOnw f2 q0
      have r0_2 := cellOnw f2 r0
      have c0_2 := cellOnw f2 c0
      have c1_2 := cellOnw f2 c1
      have c2_2 := cellOnw f2 c2
      have d0_2 := cellOnw f2 d0
      have d1_2 := cellOnw f2 d1
      have d2_2 := cellOnw f2 d2
      have f3 : Fuw wr ((wr.alloc (.cells #[.int .i64 0, .slice none 0 0, .slice none 0 0] 31)).alloc (.cells #[.int .i64 0, .slice none 0 0, .slice none 0 0] 31)) := (fuwA _ _).trans (fuwA _ _)
      have q0_3 := cellOnw f3 q0
      have r0_3 := cellOnw f3 r0
      have c0_3 := cellOnw f3 c0
      have c1_3 := cellOnw f3 c1
      have c2_3 := cellOnw f3 c2
      have d0_3 := cellOnw f3 d0
      have d1_3 := cellOnw f3 d1
      have d2_3 := cellOnw f3 d2
      have f4 : Fuw wr ((wr.alloc (.cells #[.int .i64 0, .slice none 0 0, .slice none 0 0] 31)).alloc (.cells #[.int .i64 n.id, .slice al n.ls.length cl, .slice ap n.ps.length cp] 31)) := (fuwA _ _).trans (fuwA _ _)
      have q0_4 := cellOnw f4 q0
      have r0_4 := cellOnw f4 r0
      have c0_4 := cellOnw f4 c0
      have c1_4 := cellOnw f4 c1
      have c2_4 := cellOnw f4 c2
      have d0_4 := cellOnw f4 d0
      have d1_4 := cellOnw f4 d1
      have d2_4 := cellOnw f4 d2
      have f5 : Fuw wr ((wr.alloc (.cells #[.int .i64 0, .slice none 0 0, .slice none 0 0] 31)).alloc (.cells #[.int .i64 n.id, .slice bl n.ls.length dl, .slice bp n.ps.length dp] 31)) := (fuwA _ _).trans (fuwA _ _)
      have q0_5 := cellOnw f5 q0
      have r0_5 := cellOnw f5 r0
      have c0_5 := cellOnw f5 c0
      have c1_5 := cellOnw f5 c1
      have c2_5 := cellOnw f5 c2
      have d0_5 := cellOnw f5 d0
      have d1_5 := cellOnw f5 d1
      have d2_5 := cellOnw f5 d2
      have f6 : Fuw wr ((wr.alloc (.cells #[.int .i64 n.id, .slice al n.ls.length cl, .slice ap n.ps.length cp] 31)).alloc (.cells #[.int .i64 0, .slice none 0 0, .slice none 0 0] 31)) := (fuwA _ _).trans (fuwA _ _)
      have q0_6 := cellOnw f6 q0
      have r0_6 := cellOnw f6 r0
      have c0_6 := cellOnw f6 c0
      have c1_6 := cellOnw f6 c1
      have c2_6 := cellOnw f6 c2
      have d0_6 := cellOnw f6 d0
      have d1_6 := cellOnw f6 d1
      have d2_6 := cellOnw f6 d2
      have f7 : Fuw wr ((wr.alloc (.cells #[.int .i64 n.id, .slice bl n.ls.length dl, .slice bp n.ps.length dp] 31)).alloc (.cells #[.int .i64 0, .slice none 0 0, .slice none 0 0] 31)) := (fuwA _ _).trans (fuwA _ _)
      have q0_7 := cellOnw f7 q0
      have r0_7 := cellOnw f7 r0
      have c0_7 := cellOnw f7 c0
      have c1_7 := cellOnw f7 c1
      have c2_7 := cellOnw f7 c2
      have d0_7 := cellOnw f7 d0
      have d1_7 := cellOnw f7 d1
      have d2_7 := cellOnw f7 d2
      have f8 : Fuw wr ((wr.alloc (.cells #[.int .i64 n.id, .slice al n.ls.length cl, .slice ap n.ps.length cp] 31)).alloc (.cells #[.int .i64 n.id, .slice bl n.ls.length dl, .slice bp n.ps.length dp] 31)) := (fuwA _ _).trans (fuwA _ _)
      have q0_8 := cellOnw f8 q0
      have r0_8 := cellOnw f8 r0
      have c0_8 := cellOnw f8 c0
      have c1_8 := cellOnw f8 c1
      have c2_8 := cellOnw f8 c2
      have d0_8 := cellOnw f8 d0
      have d1_8 := cellOnw f8 d1
      have d2_8 := cellOnw f8 d2
      have f9 : Fuw wr ((wr.alloc (.cells #[.int .i64 n.id, .slice bl n.ls.length dl, .slice bp n.ps.length dp] 31)).alloc (.cells #[.int .i64 n.id, .slice al n.ls.length cl, .slice ap n.ps.length cp] 31)) := (fuwA _ _).trans (fuwA _ _)
      have q0_9 := cellOnw f9 q0
      have r0_9 := cellOnw f9 r0
      have c0_9 := cellOnw f9 c0
      have c1_9 := cellOnw f9 c1
      have c2_9 := cellOnw f9 c2
      have d0_9 := cellOnw f9 d0
      have d1_9 := cellOnw f9 d1
      have d2_9 := cellOnw f9 d2
      clear q1 r1 f0 f1 f2 f3 f4 f5 f6 f7 f8 f9
      go_region
      · clear q0 r0 c0 c1 c2 d0 d1 d2 q0_0 r0_0 c0_0 c1_0 c2_0 d0_0 d1_0 d2_0 q0_1 r0_1 c0_1 c1_1 c2_1 d0_1 d1_1 d2_1 q0_2 r0_2 c0_2 c1_2 c2_2 d0_2 d1_2 d2_2 q0_3 r0_3 c0_3 c1_3 c2_3 d0_3 d1_3 d2_3 q0_4 r0_4 c0_4 c1_4 c2_4 d0_4 d1_4 d2_4 q0_5 r0_5 c0_5 c1_5 c2_5 d0_5 d1_5 d2_5 q0_6 r0_6 c0_6 c1_6 c2_6 d0_6 d1_6 d2_6 q0_7 r0_7 c0_7 c1_7 c2_7 d0_7 d1_7 d2_7 q0_8 r0_8 c0_8 c1_8 c2_8 d0_8 d1_8 d2_8 q0_9 r0_9 c0_9 c1_9 c2_9 d0_9 d1_9 d2_9
        obtain ⟨W, hW⟩ : ∃ W, W = ((wr.alloc (.cells #[.int .i64 n.id, .slice al n.ls.length cl, .slice ap n.ps.length cp] 31)).alloc (.cells #[.int .i64 n.id, .slice bl n.ls.length dl, .slice bp n.ps.length dp] 31)).drew := ⟨_, rfl⟩
        have fD : Fuw ((wr.alloc (.cells #[.int .i64 n.id, .slice al n.ls.length cl, .slice ap n.ps.length cp] 31)).alloc (.cells #[.int .i64 n.id, .slice bl n.ls.length dl, .slice bp n.ps.length dp] 31)) W := by rw [hW]; exact Fuw.drew (Fuw.refl _)
        have fW : Fuw wr W := ((fuwA _ _).trans (fuwA _ _)).trans fD
        have kn : Bk W (wr.heap.size) #[.int .i64 n.id, .slice al n.ls.length cl, .slice ap n.ps.length cp] 31 := ((Bk.new _ _ _).on (fuwA _ _)).on fD
        have km : Bk W (wr.heap.size + 1) #[.int .i64 n.id, .slice bl n.ls.length dl, .slice bp n.ps.length dp] 31 := (bk2 _ _ _ _).on fD
        rw [← hW]
        clear fD hW
        have c0 := kn.c 0
        have d0 := km.c 0
        have c1 := kn.c 1
        have d1 := km.c 1
        have c2 := kn.c 2
        have d2 := km.c 2
        have KN := Lib.hid kn
        have KM := Lib.hid km
        have FW := Lib.hid fW
        clear kn km fW
        go_wp2_with fail
        go_at_call 33; refine (CS.out _ FW.out).mono ?_; rintro g1 w1 ⟨rfl, f1⟩
        have F1 := Lib.hid f1
        clear f1 c0 d0 c1 d1 c2 d2
        have c2 := (KN.out.on F1.out).c 2
        have d2 := (KM.out.on F1.out).c 2
        go_wp2_with fail
        go_at_call 34; refine (CP.out _ (FW.out.trans F1.out)).mono ?_; rintro g2 w2 ⟨rfl, f2⟩
        have HF := Lib.hid (hf.out.trans ((FW.out.trans F1.out).trans f2))
        clear f2 c2 d2
        go_wp2
        go_roundw
        case rel => exact ⟨i + 1, by go_num, by omega, HF⟩
        case measure => simp [RowKit.intOf]; omega
      · clear q0 r0 c0 c1 c2 d0 d1 d2 q0_0 r0_0 c0_0 c1_0 c2_0 d0_0 d1_0 d2_0 q0_1 r0_1 c0_1 c1_1 c2_1 d0_1 d1_1 d2_1 q0_2 r0_2 c0_2 c1_2 c2_2 d0_2 d1_2 d2_2 q0_3 r0_3 c0_3 c1_3 c2_3 d0_3 d1_3 d2_3 q0_4 r0_4 c0_4 c1_4 c2_4 d0_4 d1_4 d2_4 q0_5 r0_5 c0_5 c1_5 c2_5 d0_5 d1_5 d2_5 q0_6 r0_6 c0_6 c1_6 c2_6 d0_6 d1_6 d2_6 q0_7 r0_7 c0_7 c1_7 c2_7 d0_7 d1_7 d2_7 q0_8 r0_8 c0_8 c1_8 c2_8 d0_8 d1_8 d2_8 q0_9 r0_9 c0_9 c1_9 c2_9 d0_9 d1_9 d2_9
        obtain ⟨W, hW⟩ : ∃ W, W = ((wr.alloc (.cells #[.int .i64 n.id, .slice bl n.ls.length dl, .slice bp n.ps.length dp] 31)).alloc (.cells #[.int .i64 n.id, .slice al n.ls.length cl, .slice ap n.ps.length cp] 31)).drew := ⟨_, rfl⟩
        have fD : Fuw ((wr.alloc (.cells #[.int .i64 n.id, .slice bl n.ls.length dl, .slice bp n.ps.length dp] 31)).alloc (.cells #[.int .i64 n.id, .slice al n.ls.length cl, .slice ap n.ps.length cp] 31)) W := by rw [hW]; exact Fuw.drew (Fuw.refl _)
        have fW : Fuw wr W := ((fuwA _ _).trans (fuwA _ _)).trans fD
        have kn : Bk W (wr.heap.size + 1) #[.int .i64 n.id, .slice al n.ls.length cl, .slice ap n.ps.length cp] 31 := (bk2 _ _ _ _).on fD
        have km : Bk W (wr.heap.size) #[.int .i64 n.id, .slice bl n.ls.length dl, .slice bp n.ps.length dp] 31 := ((Bk.new _ _ _).on (fuwA _ _)).on fD
        rw [← hW]
        clear fD hW
        have c0 := kn.c 0
        have d0 := km.c 0
        have c1 := kn.c 1
        have d1 := km.c 1
        have c2 := kn.c 2
        have d2 := km.c 2
        have KN := Lib.hid kn
        have KM := Lib.hid km
        have FW := Lib.hid fW
        clear kn km fW
        go_wp2_with fail
        go_at_call 33; refine (CS.out _ FW.out).mono ?_; rintro g1 w1 ⟨rfl, f1⟩
        have F1 := Lib.hid f1
        clear f1 c0 d0 c1 d1 c2 d2
        have c2 := (KN.out.on F1.out).c 2
        have d2 := (KM.out.on F1.out).c 2
        go_wp2_with fail
        go_at_call 34; refine (CP.out _ (FW.out.trans F1.out)).mono ?_; rintro g2 w2 ⟨rfl, f2⟩
        have HF := Lib.hid (hf.out.trans ((FW.out.trans F1.out).trans f2))
        clear f2 c2 d2
        go_wp2
        go_roundw
        case rel => exact ⟨i + 1, by go_num, by omega, HF⟩
        case measure => simp [RowKit.intOf]; omega
    · go_wp2
      clear q0 q1 r0 r1
      go_loopw [8] (fun iv wx => ∃ i : Nat, iv = .int .i64 i ∧ i ≤ es.length ∧ Hid (Fuw w0 wx)) (fun iv _ => es.length - (RowKit.intOf iv).toNat)
      case atStart => exact ⟨0, rfl, Nat.zero_le _, hf⟩
      case round =>
        clear hf hlt hi
        obtain ⟨i, rfl, hi, hf⟩ := hrel
        rename_i wr
        have q0 : wr.cell? ⟨w.heap.size, 0, none⟩ = some (.slice an ns.length cn) := (P0.out.on hf.out).c 0
        have q1 : wr.cell? ⟨w.heap.size, 1, none⟩ = some (.slice ae es.length ce) := (P0.out.on hf.out).c 1
        have r0 : wr.cell? ⟨w.heap.size + 1, 0, none⟩ = some (.slice bn ns.length dn) := (P1.out.on hf.out).c 0
        have r1 : wr.cell? ⟨w.heap.size + 1, 1, none⟩ = some (.slice be es.length de) := (P1.out.on hf.out).c 1
        by_cases hlt : i < es.length
        · obtain ⟨b, o, rfl, i1, i2, i3, hz, c0, c1, c2, c3, ap, cp, c4, sp⟩ := (slE_on hf.out H2.out).get hlt
          obtain ⟨b', o', rfl, -, -, -, -, d0, d1, d2, d3, bp, dp, d4, tp⟩ := (slE_on hf.out H4.out).get hlt
          have CP := Lib.hid (fun w' (h : Fuw wr w') => sprop_eq es[i].ps ap bp cp dp w' (slP_on h sp) (slP_on h tp))
          clear sp tp i1 i2 i3 hz
          generalize es[i] = n at *
          have e1 : (n.id != n.id) = false := by simp
          have e2 : (n.fr != n.fr) = false := by simp
          have e3 : (n.to != n.to) = false := by simp
          have e4 : ((bs n.ty).toList != (bs n.ty).toList) = false := by simp
          go_upto_region 12 with fail
          have f0 : Fuw wr (wr.alloc (.cells #[.int .i64 0, .int .i64 0, .int .i64 0, .string ⟨#[]⟩, .slice none 0 0] 35)) := fuwA _ _
          have q1_0 := cellOnw f0 q1
          have r1_0 := cellOnw f0 r1
          have c0_0 := cellOnw f0 c0
          have c1_0 := cellOnw f0 c1
          have c2_0 := cellOnw f0 c2
          have c3_0 := cellOnw f0 c3
          have c4_0 := cellOnw f0 c4
          have d0_0 := cellOnw f0 d0
          have d1_0 := cellOnw f0 d1
          have d2_0 := cellOnw f0 d2
          have d3_0 := cellOnw f0 d3
          have d4_0 := cellOnw f0 d4
          have f1 : Fuw wr (wr.alloc (.cells #[.int .i64 n.id, .int .i64 n.fr, .int .i64 n.to, .string (bs n.ty), .slice ap n.ps.length cp] 35)) := fuwA _ _
          have q1_1 := cellOnw f1 q1
          have r1_1 := cellOnw f1 r1
          have c0_1 := cellOnw f1 c0
          have c1_1 := cellOnw f1 c1
          have c2_1 := cellOnw f1 c2
          have c3_1 := cellOnw f1 c3
          have c4_1 := cellOnw f1 c4
          have d0_1 := cellOnw f1 d0
          have d1_1 := cellOnw f1 d1
          have d2_1 := cellOnw f1 d2
          have d3_1 := cellOnw f1 d3
          have d4_1 := cellOnw f1 d4
          have f2 : Fuw wr (wr.alloc (.cells #[.int .i64 n.id, .int .i64 n.fr, .int .i64 n.to, .string (bs n.ty), .slice bp n.ps.length dp] 35)) := fuwA _ _
          have q1_2 := cellOnw f2 q1
          have r1_2 := cellOnw f2 r1
          have c0_2 := cellOnw f2 c0
          have c1_2 := cellOnw f2 c1
          have c2_2 := cellOnw f2 c2
          have c3_2 := cellOnw f2 c3
          have c4_2 := cellOnw f2 c4
          have d0_2 := cellOnw f2 d0
          have d1_2 := cellOnw f2 d1
          have d2_2 := cellOnw f2 d2
          have d3_2 := cellOnw f2 d3
          have d4_2 := cellOnw f2 d4
          have f3 : Fuw wr ((wr.alloc (.cells #[.int .i64 0, .int .i64 0, .int .i64 0, .string ⟨#[]⟩, .slice none 0 0] 35)).alloc (.cells #[.int .i64 0, .int .i64 0, .int .i64 0, .string ⟨#[]⟩, .slice none 0 0] 35)) := (fuwA _ _).trans (fuwA _ _)
          have q1_3 := cellOnw f3 q1
          have r1_3 := cellOnw f3 r1
          have c0_3 := cellOnw f3 c0
          have c1_3 := cellOnw f3 c1
          have c2_3 := cellOnw f3 c2
          have c3_3 := cellOnw f3 c3
          have c4_3 := cellOnw f3 c4
          have d0_3 := cellOnw f3 d0
          have d1_3 := cellOnw f3 d1
          have d2_3 := cellOnw f3 d2
          have d3_3 := cellOnw f3 d3
          have d4_3 := cellOnw f3 d4
          have f4 : Fuw wr ((wr.alloc (.cells #[.int .i64 0, .int .i64 0, .int .i64 0, .string ⟨#[]⟩, .slice none 0 0] 35)).alloc (.cells #[.int .i64 n.id, .int .i64 n.fr, .int .i64 n.to, .string (bs n.ty), .slice ap n.ps.length cp] 35)) := (fuwA _ _).trans (fuwA _ _)
          have q1_4 := cellOnw f4 q1
          have r1_4 := cellOnw f4 r1
          have c0_4 := cellOnw f4 c0
          have c1_4 := cellOnw f4 c1
          have c2_4 := cellOnw f4 c2
          have c3_4 := cellOnw f4 c3
          have c4_4 := cellOnw f4 c4
          have d0_4 := cellOnw f4 d0
          have d1_4 := cellOnw f4 d1
          have d2_4 := cellOnw f4 d2
          have d3_4 := cellOnw f4 d3
          have d4_4 := cellOnw f4 d4
          have f5 : Fuw wr ((wr.alloc (.cells #[.int .i64 0, .int .i64 0, .int .i64 0, .string ⟨#[]⟩, .slice none 0 0] 35)).alloc (.cells #[.int .i64 n.id, .int .i64 n.fr, .int .i64 n.to, .string (bs n.ty), .slice bp n.ps.length dp] 35)) := (fuwA _ _).trans (fuwA _ _)
          have q1_5 := cellOnw f5 q1
          have r1_5 := cellOnw f5 r1
          have c0_5 := cellOnw f5 c0
          have c1_5 := cellOnw f5 c1
          have c2_5 := cellOnw f5 c2
          have c3_5 := cellOnw f5 c3
          have c4_5 := cellOnw f5 c4
          have d0_5 := cellOnw f5 d0
          have d1_5 := cellOnw f5 d1
          have d2_5 := cellOnw f5 d2
          have d3_5 := cellOnw f5 d3
          have d4_5 := cellOnw f5 d4
          have f6 : Fuw wr ((wr.alloc (.cells #[.int .i64 n.id, .int .i64 n.fr, .int .i64 n.to, .string (bs n.ty), .slice ap n.ps.length cp] 35)).alloc (.cells #[.int .i64 0, .int .i64 0, .int .i64 0, .string ⟨#[]⟩, .slice none 0 0] 35)) := (fuwA _ _).trans (fuwA _ _)
          have q1_6 := cellOnw f6 q1
          have r1_6 := cellOnw f6 r1
          have c0_6 := cellOnw f6 c0
          have c1_6 := cellOnw f6 c1
          have c2_6 := cellOnw f6 c2
          have c3_6 := cellOnw f6 c3
          have c4_6 := cellOnw f6 c4
          have d0_6 := cellOnw f6 d0
          have d1_6 := cellOnw f6 d1
          have d2_6 := cellOnw f6 d2
          have d3_6 := cellOnw f6 d3
          have d4_6 := cellOnw f6 d4
          have f7 : Fuw wr ((wr.alloc (.cells #[.int .i64 n.id, .int .i64 n.fr, .int .i64 n.to, .string (bs n.ty), .slice bp n.ps.length dp] 35)).alloc (.cells #[.int .i64 0, .int .i64 0, .int .i64 0, .string ⟨#[]⟩, .slice none 0 0] 35)) := (fuwA _ _).trans (fuwA _ _)
          have q1_7 := cellOnw f7 q1
          have r1_7 := cellOnw f7 r1
          have c0_7 := cellOnw f7 c0
          have c1_7 := cellOnw f7 c1
          have c2_7 := cellOnw f7 c2
          have c3_7 := cellOnw f7 c3
          have c4_7 := cellOnw f7 c4
          have d0_7 := cellOnw f7 d0
          have d1_7 := cellOnw f7 d1
          have d2_7 := cellOnw f7 d2
          have d3_7 := cellOnw f7 d3
          have d4_7 := cellOnw f7 d4
          have f8 : Fuw wr ((wr.alloc (.cells #[.int .i64 n.id, .int .i64 n.fr, .int .i64 n.to, .string (bs n.ty), .slice ap n.ps.length cp] 35)).alloc (.cells #[.int .i64 n.id, .int .i64 n.fr, .int .i64 n.to, .string (bs n.ty), .slice bp n.ps.length dp] 35)) := (fuwA _ _).trans (fuwA _ _)
          have q1_8 := cellOnw f8 q1
          have r1_8 := cellOnw f8 r1
          have c0_8 := cellOnw f8 c0
          have c1_8 := cellOnw f8 c1
          have c2_8 := cellOnw f8 c2
          have c3_8 := cellOnw f8 c3
          have c4_8 := cellOnw f8 c4
          have d0_8 := cellOnw f8 d0
          have d1_8 := cellOnw f8 d1
          have d2_8 := cellOnw f8 d2
          have d3_8 := cellOnw f8 d3
          have d4_8 := cellOnw f8 d4
          have f9 : Fuw wr ((wr.alloc (.cells #[.int .i64 n.id, .int .i64 n.fr, .int .i64 n.to, .string (bs n.ty), .slice bp n.ps.length dp] 35)).alloc (.cells #[.int .i64 n.id, .int .i64 n.fr, .int .i64 n.to, .string (bs n.ty), .slice ap n.ps.length cp] 35)) := (fuwA _ _).trans (fuwA _ _)
          have q1_9 := cellOnw f9 q1
          have r1_9 := cellOnw f9 r1
          have c0_9 := cellOnw f9 c0
          have c1_9 := cellOnw f9 c1
          have c2_9 := cellOnw f9 c2
          have c3_9 := cellOnw f9 c3
          have c4_9 := cellOnw f9 c4
          have d0_9 := cellOnw f9 d0
          have d1_9 := cellOnw f9 d1
          have d2_9 := cellOnw f9 d2
          have d3_9 := cellOnw f9 d3
          have d4_9 := cellOnw f9 d4
          clear q0 r0 f0 f1 f2 f3 f4 f5 f6 f7 f8 f9
          go_region
          · clear q1 r1 c0 c1 c2 c3 c4 d0 d1 d2 d3 d4 q1_0 r1_0 c0_0 c1_0 c2_0 c3_0 c4_0 d0_0 d1_0 d2_0 d3_0 d4_0 q1_1 r1_1 c0_1 c1_1 c2_1 c3_1 c4_1 d0_1 d1_1 d2_1 d3_1 d4_1 q1_2 r1_2 c0_2 c1_2 c2_2 c3_2 c4_2 d0_2 d1_2 d2_2 d3_2 d4_2 q1_3 r1_3 c0_3 c1_3 c2_3 c3_3 c4_3 d0_3 d1_3 d2_3 d3_3 d4_3 q1_4 r1_4 c0_4 c1_4 c2_4 c3_4 c4_4 d0_4 d1_4 d2_4 d3_4 d4_4 q1_5 r1_5 c0_5 c1_5 c2_5 c3_5 c4_5 d0_5 d1_5 d2_5 d3_5 d4_5 q1_6 r1_6 c0_6 c1_6 c2_6 c3_6 c4_6 d0_6 d1_6 d2_6 d3_6 d4_6 q1_7 r1_7 c0_7 c1_7 c2_7 c3_7 c4_7 d0_7 d1_7 d2_7 d3_7 d4_7 q1_8 r1_8 c0_8 c1_8 c2_8 c3_8 c4_8 d0_8 d1_8 d2_8 d3_8 d4_8 q1_9 r1_9 c0_9 c1_9 c2_9 c3_9 c4_9 d0_9 d1_9 d2_9 d3_9 d4_9
            obtain ⟨W, hW⟩ : ∃ W, W = ((wr.alloc (.cells #[.int .i64 n.id, .int .i64 n.fr, .int .i64 n.to, .string (bs n.ty), .slice ap n.ps.length cp] 35)).alloc (.cells #[.int .i64 n.id, .int .i64 n.fr, .int .i64 n.to, .string (bs n.ty), .slice bp n.ps.length dp] 35)).drew := ⟨_, rfl⟩
            have fD : Fuw ((wr.alloc (.cells #[.int .i64 n.id, .int .i64 n.fr, .int .i64 n.to, .string (bs n.ty), .slice ap n.ps.length cp] 35)).alloc (.cells #[.int .i64 n.id, .int .i64 n.fr, .int .i64 n.to, .string (bs n.ty), .slice bp n.ps.length dp] 35)) W := by rw [hW]; exact Fuw.drew (Fuw.refl _)
            have fW : Fuw wr W := ((fuwA _ _).trans (fuwA _ _)).trans fD
            have kn : Bk W (wr.heap.size) #[.int .i64 n.id, .int .i64 n.fr, .int .i64 n.to, .string (bs n.ty), .slice ap n.ps.length cp] 35 := ((Bk.new _ _ _).on (fuwA _ _)).on fD
            have km : Bk W (wr.heap.size + 1) #[.int .i64 n.id, .int .i64 n.fr, .int .i64 n.to, .string (bs n.ty), .slice bp n.ps.length dp] 35 := (bk2 _ _ _ _).on fD
            rw [← hW]
            clear fD hW
            have c0 := kn.c 0
            have d0 := km.c 0
            have c1 := kn.c 1
            have d1 := km.c 1
            have c2 := kn.c 2
            have d2 := km.c 2
            have c3 := kn.c 3
            have d3 := km.c 3
            have c4 := kn.c 4
            have d4 := km.c 4
            have KN := Lib.hid kn
            have KM := Lib.hid km
            have FW := Lib.hid fW
            clear kn km fW
            go_wp2_with fail
            go_at_call 34; refine (CP.out _ FW.out).mono ?_; rintro g2 w2 ⟨rfl, f2⟩
            have HF := Lib.hid (hf.out.trans (FW.out.trans f2))
            clear f2 c0 d0 c1 d1 c2 d2 c3 d3 c4 d4
            go_wp2
            go_roundw
            case rel => exact ⟨i + 1, by go_num, by omega, HF⟩
            case measure => simp [RowKit.intOf]; omega
          · clear q1 r1 c0 c1 c2 c3 c4 d0 d1 d2 d3 d4 q1_0 r1_0 c0_0 c1_0 c2_0 c3_0 c4_0 d0_0 d1_0 d2_0 d3_0 d4_0 q1_1 r1_1 c0_1 c1_1 c2_1 c3_1 c4_1 d0_1 d1_1 d2_1 d3_1 d4_1 q1_2 r1_2 c0_2 c1_2 c2_2 c3_2 c4_2 d0_2 d1_2 d2_2 d3_2 d4_2 q1_3 r1_3 c0_3 c1_3 c2_3 c3_3 c4_3 d0_3 d1_3 d2_3 d3_3 d4_3 q1_4 r1_4 c0_4 c1_4 c2_4 c3_4 c4_4 d0_4 d1_4 d2_4 d3_4 d4_4 q1_5 r1_5 c0_5 c1_5 c2_5 c3_5 c4_5 d0_5 d1_5 d2_5 d3_5 d4_5 q1_6 r1_6 c0_6 c1_6 c2_6 c3_6 c4_6 d0_6 d1_6 d2_6 d3_6 d4_6 q1_7 r1_7 c0_7 c1_7 c2_7 c3_7 c4_7 d0_7 d1_7 d2_7 d3_7 d4_7 q1_8 r1_8 c0_8 c1_8 c2_8 c3_8 c4_8 d0_8 d1_8 d2_8 d3_8 d4_8 q1_9 r1_9 c0_9 c1_9 c2_9 c3_9 c4_9 d0_9 d1_9 d2_9 d3_9 d4_9
            obtain ⟨W, hW⟩ : ∃ W, W = ((wr.alloc (.cells #[.int .i64 n.id, .int .i64 n.fr, .int .i64 n.to, .string (bs n.ty), .slice bp n.ps.length dp] 35)).alloc (.cells #[.int .i64 n.id, .int .i64 n.fr, .int .i64 n.to, .string (bs n.ty), .slice ap n.ps.length cp] 35)).drew := ⟨_, rfl⟩
            have fD : Fuw ((wr.alloc (.cells #[.int .i64 n.id, .int .i64 n.fr, .int .i64 n.to, .string (bs n.ty), .slice bp n.ps.length dp] 35)).alloc (.cells #[.int .i64 n.id, .int .i64 n.fr, .int .i64 n.to, .string (bs n.ty), .slice ap n.ps.length cp] 35)) W := by rw [hW]; exact Fuw.drew (Fuw.refl _)
            have fW : Fuw wr W := ((fuwA _ _).trans (fuwA _ _)).trans fD
            have kn : Bk W (wr.heap.size + 1) #[.int .i64 n.id, .int .i64 n.fr, .int .i64 n.to, .string (bs n.ty), .slice ap n.ps.length cp] 35 := (bk2 _ _ _ _).on fD
            have km : Bk W (wr.heap.size) #[.int .i64 n.id, .int .i64 n.fr, .int .i64 n.to, .string (bs n.ty), .slice bp n.ps.length dp] 35 := ((Bk.new _ _ _).on (fuwA _ _)).on fD
            rw [← hW]
            clear fD hW
            have c0 := kn.c 0
            have d0 := km.c 0
            have c1 := kn.c 1
            have d1 := km.c 1
            have c2 := kn.c 2
            have d2 := km.c 2
            have c3 := kn.c 3
            have d3 := km.c 3
            have c4 := kn.c 4
            have d4 := km.c 4
            have KN := Lib.hid kn
            have KM := Lib.hid km
            have FW := Lib.hid fW
            clear kn km fW
            go_wp2_with fail
            go_at_call 34; refine (CP.out _ FW.out).mono ?_; rintro g2 w2 ⟨rfl, f2⟩
            have HF := Lib.hid (hf.out.trans (FW.out.trans f2))
            clear f2 c0 d0 c1 d1 c2 d2 c3 d3 c4 d4
            go_wp2
            go_roundw
            case rel => exact ⟨i + 1, by go_num, by omega, HF⟩
            case measure => simp [RowKit.intOf]; omega
        · go_wp2
          go_ret
          exact ⟨rfl, F0.out.trans hf.out⟩
end Go.Proofs.Ytcadeijloobbmaa
