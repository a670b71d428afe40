import Derived.Test.YtpamdlkagmlahaaGreatDoorK14
import Derived.Test.YtpamdlkagmlahaaGreatDoorK27
namespace Go.Proofs.YtpamdlkagmlahaaGreatDoor
open Go.RowKit
set_option maxHeartbeats 25600000 in
set_option maxRecDepth 100000 in
theorem rsparts_any (ns ms : List Nd) (es fs : List Ed) (an ae bn be : Option Addr) (cn ce dn de : Nat) (x1 x2 y1 y2 : Int) (w : World) (h1 : SlN w an ns cn) (h2 : SlE w ae es ce) (h3 : SlN w bn ms dn) (h4 : SlE w be fs de) :
  Calls Tryz.prog 34 #[.agg #[.slice an ns.length cn, .slice ae es.length ce, .int .i64 x1, .int .i64 x2], .agg #[.slice bn ms.length dn, .slice be fs.length de, .int .i64 y1, .int .i64 y2]] w (FwB w (al2 samN ns ms && al2 samE es fs)) := by
 have l1 := h1.len
 have l2 := h2.len
 have l3 := h3.len
 have l4 := h4.len
 obtain ⟨R, hR⟩ : ∃ R, R = (al2 samN ns ms && al2 samE es fs) := ⟨_, rfl⟩
 rw [← hR]
 have HR := Lib.hid hR
 clear hR
 have p0 := (Bk.new w #[.slice an ns.length cn, .slice ae es.length ce, .int .i64 x1, .int .i64 x2] 25).on (fuwA _ (.cells #[.slice bn ms.length dn, .slice be fs.length de, .int .i64 y1, .int .i64 y2] 25))
 have p1 := bk2 w (.cells #[.slice an ns.length cn, .slice ae es.length ce, .int .i64 x1, .int .i64 x2] 25) #[.slice bn ms.length dn, .slice be fs.length de, .int .i64 y1, .int .i64 y2] 25
 have f0 := (fuwA w (.cells #[.slice an ns.length cn, .slice ae es.length ce, .int .i64 x1, .int .i64 x2] 25)).trans (fuwA _ (.cells #[.slice bn ms.length dn, .slice be fs.length de, .int .i64 y1, .int .i64 y2] 25))
 obtain ⟨w0, hw0⟩ : ∃ w0, w0 = (w.alloc (.cells #[.slice an ns.length cn, .slice ae es.length ce, .int .i64 x1, .int .i64 x2] 25)).alloc (.cells #[.slice bn ms.length dn, .slice be fs.length de, .int .i64 y1, .int .i64 y2] 25) := ⟨_, rfl⟩
 rw [← hw0] at f0 p0 p1
 have HW0 := Lib.hid hw0
 have F0 := Lib.hid f0
 have P0 := Lib.hid p0
 have P1 := Lib.hid p1
 have H1 := Lib.hid (slN_on f0 h1)
 have H2 := Lib.hid (slE_on f0 h2)
 have H3 := Lib.hid (slN_on f0 h3)
 have H4 := Lib.hid (slE_on f0 h4)
 clear hw0 f0 p0 p1 h1 h2 h3 h4
 go_enter Tryz.func34, Tryz.ntmps34
 go_upto_region 1 with fail
 rw [← HW0.out]
 have q0 : w0.cell? ⟨w.heap.size, 0, none⟩ = some (.slice an ns.length cn) := (P0.out).c 0
 have q1 : w0.cell? ⟨w.heap.size, 1, none⟩ = some (.slice ae es.length ce) := (P0.out).c 1
 have s0 : w0.cell? ⟨w.heap.size + 1, 0, none⟩ = some (.slice bn ms.length dn) := (P1.out).c 0
 have s1 : w0.cell? ⟨w.heap.size + 1, 1, none⟩ = some (.slice be fs.length de) := (P1.out).c 1
 by_cases hl : ns.length = ms.length
 case neg =>
  have HZ := Lib.hid (show R = false by rw [HR.out, al2_len _ _ _ hl]; rfl)
  have hq : ((ns.length : Int) != (ms.length : Int)) = true := by rw [bne_iff_ne]; omega
  clear hl
  go_wp2
  go_ret
  exact ⟨ret_bool HZ.out.symm, F0.out⟩
 have hq : ((ns.length : Int) != (ms.length : Int)) = false := by rw [hl]; simp
 by_cases hl2 : es.length = fs.length
 case neg =>
  have HZ := Lib.hid (show R = false by rw [HR.out, al2_len _ _ _ hl2, Bool.and_false])
  have hq2 : ((es.length : Int) != (fs.length : Int)) = true := by rw [bne_iff_ne]; omega
  clear hl hl2
  go_wp2
  go_ret
  exact ⟨ret_bool HZ.out.symm, F0.out⟩
 have hq2 : ((es.length : Int) != (fs.length : Int)) = false := by rw [hl2]; simp
 have HL := Lib.hid hl
 have HL2 := Lib.hid hl2
 have hS := Lib.hid (show R = (al2 samN (ns.drop 0) (ms.drop 0) && al2 samE es fs) from HR.out)
 clear hl hl2 HR
 go_wp2
 clear q0 q1 s0 s1 hq hq2
 go_loopw [5] (fun iv wr => ∃ i : Nat, iv = .int .i64 i ∧ i ≤ ns.length ∧ Hid (R = (al2 samN (ns.drop i) (ms.drop i) && al2 samE es fs)) ∧ Hid (Fuw w0 wr)) (fun iv _ => ns.length - (RowKit.intOf iv).toNat)
 case atStart => exact ⟨0, rfl, Nat.zero_le _, hS, Fuw.refl _⟩
 case round =>
  obtain ⟨i, rfl, hi, HQ, hf⟩ := hrel
  have q0 : wr.cell? ⟨w.heap.size, 0, none⟩ = some (.slice an ns.length cn) := (P0.out.on hf.out).c 0
  have q1 : wr.cell? ⟨w.heap.size, 1, none⟩ = some (.slice ae es.length ce) := (P0.out.on hf.out).c 1
  have s0 : wr.cell? ⟨w.heap.size + 1, 0, none⟩ = some (.slice bn ms.length dn) := (P1.out.on hf.out).c 0
  have s1 : wr.cell? ⟨w.heap.size + 1, 1, none⟩ = some (.slice be fs.length de) := (P1.out.on hf.out).c 1
  by_cases hlt : i < ns.length
  ·have hlm : i < ms.length := by have := HL.out; omega
   have hlt2 : (i : Int) < (ns.length : Int) := by omega
   have hlm2 : (i : Int) < (ms.length : Int) := by omega
   obtain ⟨b, o, rfl, -, c0, ⟨al, cl, c1, sl⟩, ap, cp, c2, sp⟩ := (slN_on hf.out H1.out).get hlt
   obtain ⟨b', o', rfl, -, d0, ⟨bl, dl, d1, tl⟩, bp, dp, d2, tp⟩ := (slN_on hf.out H3.out).get hlm
   have CS := Lib.hid (fun w' (h : Fuw wr w') => rsstr_any ns[i].ls ms[i].ls al bl cl dl w' (slS_on h sl) (slS_on h tl))
   have CP := Lib.hid (fun w' (h : Fuw wr w') => rsprop_any ns[i].ps ms[i].ps ap bp cp dp w' (slP_on h sp) (slP_on h tp))
   obtain ⟨TT, hT⟩ : ∃ TT, TT = (al2 samN (ns.drop (i + 1)) (ms.drop (i + 1)) && al2 samE es fs) := ⟨_, rfl⟩
   have HT := Lib.hid hT
   have HD := Lib.hid (show R = (((ns[i].id == ms[i].id) && (al2 eqS ns[i].ls ms[i].ls && al2 samP ns[i].ps ms[i].ps)) && TT) by
    rw [HQ.out, al2_drop samN ns ms i hlt hlm, Bool.and_assoc, ← hT]; rfl)
   clear sl tl sp tp hT
   generalize al2 eqS ns[i].ls ms[i].ls = r0 at *
   generalize al2 samP ns[i].ps ms[i].ps = r1 at *
   generalize ns[i] = n at *
   generalize ms[i] = m at *
   go_upto_region 6 with fail
   have f0 : Fuw wr (wr.alloc (.cells #[.int .i64 0, .slice none 0 0, .slice none 0 0] 51)) := fuwA _ _
   have q0_0 := cellOnw f0 q0
   have s0_0 := cellOnw f0 s0
   have c0_0 := cellOnw f0 c0
   have c1_0 := cellOnw f0 c1
   have c2_0 := cellOnw f0 c2
   have d0_0 := cellOnw f0 d0
   have d1_0 := cellOnw f0 d1
   have d2_0 := cellOnw f0 d2
   have f1 : Fuw wr (wr.alloc (.cells #[.int .i64 n.id, .slice al n.ls.length cl, .slice ap n.ps.length cp] 51)) := fuwA _ _
   have q0_1 := cellOnw f1 q0
   have s0_1 := cellOnw f1 s0
   have c0_1 := cellOnw f1 c0
   have c1_1 := cellOnw f1 c1
   have c2_1 := cellOnw f1 c2
   have d0_1 := cellOnw f1 d0
   have d1_1 := cellOnw f1 d1
   have d2_1 := cellOnw f1 d2
   have f2 : Fuw wr (wr.alloc (.cells #[.int .i64 m.id, .slice bl m.ls.length dl, .slice bp m.ps.length dp] 51)) := fuwA _ _
   have q0_2 := cellOnw f2 q0
   have s0_2 := cellOnw f2 s0
   have c0_2 := cellOnw f2 c0
   have c1_2 := cellOnw f2 c1
   have c2_2 := cellOnw f2 c2
   have d0_2 := cellOnw f2 d0
   have d1_2 := cellOnw f2 d1
   have d2_2 := cellOnw f2 d2
   have f3 : Fuw wr ((wr.alloc (.cells #[.int .i64 0, .slice none 0 0, .slice none 0 0] 51)).alloc (.cells #[.int .i64 0, .slice none 0 0, .slice none 0 0] 51)) := (fuwA _ _).trans (fuwA _ _)
   have q0_3 := cellOnw f3 q0
   have s0_3 := cellOnw f3 s0
   have c0_3 := cellOnw f3 c0
   have c1_3 := cellOnw f3 c1
   have c2_3 := cellOnw f3 c2
   have d0_3 := cellOnw f3 d0
   have d1_3 := cellOnw f3 d1
   have d2_3 := cellOnw f3 d2
   have f4 : Fuw wr ((wr.alloc (.cells #[.int .i64 0, .slice none 0 0, .slice none 0 0] 51)).alloc (.cells #[.int .i64 n.id, .slice al n.ls.length cl, .slice ap n.ps.length cp] 51)) := (fuwA _ _).trans (fuwA _ _)
   have q0_4 := cellOnw f4 q0
   have s0_4 := cellOnw f4 s0
   have c0_4 := cellOnw f4 c0
   have c1_4 := cellOnw f4 c1
   have c2_4 := cellOnw f4 c2
   have d0_4 := cellOnw f4 d0
   have d1_4 := cellOnw f4 d1
   have d2_4 := cellOnw f4 d2
   have f5 : Fuw wr ((wr.alloc (.cells #[.int .i64 0, .slice none 0 0, .slice none 0 0] 51)).alloc (.cells #[.int .i64 m.id, .slice bl m.ls.length dl, .slice bp m.ps.length dp] 51)) := (fuwA _ _).trans (fuwA _ _)
   have q0_5 := cellOnw f5 q0
   have s0_5 := cellOnw f5 s0
   have c0_5 := cellOnw f5 c0
   have c1_5 := cellOnw f5 c1
   have c2_5 := cellOnw f5 c2
   have d0_5 := cellOnw f5 d0
   have d1_5 := cellOnw f5 d1
   have d2_5 := cellOnw f5 d2
   have f6 : Fuw wr ((wr.alloc (.cells #[.int .i64 n.id, .slice al n.ls.length cl, .slice ap n.ps.length cp] 51)).alloc (.cells #[.int .i64 0, .slice none 0 0, .slice none 0 0] 51)) := (fuwA _ _).trans (fuwA _ _)
   have q0_6 := cellOnw f6 q0
   have s0_6 := cellOnw f6 s0
   have c0_6 := cellOnw f6 c0
   have c1_6 := cellOnw f6 c1
   have c2_6 := cellOnw f6 c2
   have d0_6 := cellOnw f6 d0
   have d1_6 := cellOnw f6 d1
   have d2_6 := cellOnw f6 d2
   have f7 : Fuw wr ((wr.alloc (.cells #[.int .i64 m.id, .slice bl m.ls.length dl, .slice bp m.ps.length dp] 51)).alloc (.cells #[.int .i64 0, .slice none 0 0, .slice none 0 0] 51)) := (fuwA _ _).trans (fuwA _ _)
   have q0_7 := cellOnw f7 q0
   have s0_7 := cellOnw f7 s0
   have c0_7 := cellOnw f7 c0
   have c1_7 := cellOnw f7 c1
   have c2_7 := cellOnw f7 c2
   have d0_7 := cellOnw f7 d0
   have d1_7 := cellOnw f7 d1
   have d2_7 := cellOnw f7 d2
   have f8 : Fuw wr ((wr.alloc (.cells #[.int .i64 n.id, .slice al n.ls.length cl, .slice ap n.ps.length cp] 51)).alloc (.cells #[.int .i64 m.id, .slice bl m.ls.length dl, .slice bp m.ps.length dp] 51)) := (fuwA _ _).trans (fuwA _ _)
   have q0_8 := cellOnw f8 q0
   have s0_8 := cellOnw f8 s0
   have c0_8 := cellOnw f8 c0
   have c1_8 := cellOnw f8 c1
   have c2_8 := cellOnw f8 c2
   have d0_8 := cellOnw f8 d0
   have d1_8 := cellOnw f8 d1
   have d2_8 := cellOnw f8 d2
   have f9 : Fuw wr ((wr.alloc (.cells #[.int .i64 m.id, .slice bl m.ls.length dl, .slice bp m.ps.length dp] 51)).alloc (.cells #[.int .i64 n.id, .slice al n.ls.length cl, .slice ap n.ps.length cp] 51)) := (fuwA _ _).trans (fuwA _ _)
   have q0_9 := cellOnw f9 q0
   have s0_9 := cellOnw f9 s0
   have c0_9 := cellOnw f9 c0
   have c1_9 := cellOnw f9 c1
   have c2_9 := cellOnw f9 c2
   have d0_9 := cellOnw f9 d0
   have d1_9 := cellOnw f9 d1
   have d2_9 := cellOnw f9 d2
   clear q1 s1 f0 f1 f2 f3 f4 f5 f6 f7 f8 f9
   go_region
   ·clear q0 s0 c0 c1 c2 d0 d1 d2 q0_0 s0_0 c0_0 c1_0 c2_0 d0_0 d1_0 d2_0 q0_1 s0_1 c0_1 c1_1 c2_1 d0_1 d1_1 d2_1 q0_2 s0_2 c0_2 c1_2 c2_2 d0_2 d1_2 d2_2 q0_3 s0_3 c0_3 c1_3 c2_3 d0_3 d1_3 d2_3 q0_4 s0_4 c0_4 c1_4 c2_4 d0_4 d1_4 d2_4 q0_5 s0_5 c0_5 c1_5 c2_5 d0_5 d1_5 d2_5 q0_6 s0_6 c0_6 c1_6 c2_6 d0_6 d1_6 d2_6 q0_7 s0_7 c0_7 c1_7 c2_7 d0_7 d1_7 d2_7 q0_8 s0_8 c0_8 c1_8 c2_8 d0_8 d1_8 d2_8 q0_9 s0_9 c0_9 c1_9 c2_9 d0_9 d1_9 d2_9
    obtain ⟨W, hW⟩ : ∃ W, W = ((wr.alloc (.cells #[.int .i64 n.id, .slice al n.ls.length cl, .slice ap n.ps.length cp] 51)).alloc (.cells #[.int .i64 m.id, .slice bl m.ls.length dl, .slice bp m.ps.length dp] 51)).drew := ⟨_, rfl⟩
    have fD : Fuw ((wr.alloc (.cells #[.int .i64 n.id, .slice al n.ls.length cl, .slice ap n.ps.length cp] 51)).alloc (.cells #[.int .i64 m.id, .slice bl m.ls.length dl, .slice bp m.ps.length dp] 51)) W := by rw [hW]; exact Fuw.drew (Fuw.refl _)
    have fW : Fuw wr W := ((fuwA _ _).trans (fuwA _ _)).trans fD
    have kn : Bk W wr.heap.size #[.int .i64 n.id, .slice al n.ls.length cl, .slice ap n.ps.length cp] 51 := ((Bk.new _ _ _).on (fuwA _ _)).on fD
    have km : Bk W (wr.heap.size + 1) #[.int .i64 m.id, .slice bl m.ls.length dl, .slice bp m.ps.length dp] 51 := (bk2 _ _ _ _).on fD
    rw [← hW]
    clear fD hW
    have c0 := kn.c 0
    have d0 := km.c 0
    have c1 := kn.c 1
    have d1 := km.c 1
    have c2 := kn.c 2
    have d2 := km.c 2
    have KN := Lib.hid kn
    have KM := Lib.hid km
    have FW := Lib.hid fW
    clear kn km fW
    cases h0 : (n.id == m.id) with
    | false =>
     have HZ := Lib.hid (show R = false by rw [HD.out, h0]; rfl)
     have e1 : (n.id != m.id) = true := by rw [bne, h0]; rfl
     clear h0
     go_wp2
     go_ret
     exact ⟨ret_bool HZ.out.symm, F0.out.trans (hf.out.trans FW.out)⟩
    | true =>
     have HE := Lib.hid (show R = ((r0 && r1) && TT) by rw [HD.out, h0]; rfl)
     have e1 : (n.id != m.id) = false := by rw [bne, h0]; rfl
     clear h0
     go_wp2_with fail
     go_at_call 65; refine (CS.out _ FW.out).mono ?_; rintro g1 w1 ⟨rfl, f1⟩
     have F1 := Lib.hid f1
     clear f1 c0 d0 c1 d1 c2 d2
     have c2 := (KN.out.on F1.out).c 2
     have d2 := (KM.out.on F1.out).c 2
     cases r0 with
     | false =>
      have HZ := Lib.hid (show R = false from HE.out)
      go_wp2
      go_ret
      exact ⟨ret_bool HZ.out.symm, F0.out.trans (hf.out.trans (FW.out.trans F1.out))⟩
     | true =>
      replace HE := Lib.hid (show R = (r1 && TT) from HE.out)
      go_wp2_with fail
      go_at_call 66; refine (CP.out _ (FW.out.trans F1.out)).mono ?_; rintro g2 w2 ⟨rfl, f2⟩
      have HF := Lib.hid (hf.out.trans ((FW.out.trans F1.out).trans f2))
      clear f2 c2 d2
      cases r1 with
      | false =>
       have HZ := Lib.hid (show R = false from HE.out)
       go_wp2
       go_ret
       exact ⟨ret_bool HZ.out.symm, F0.out.trans HF.out⟩
      | true =>
       have HQ2 := Lib.hid ((show R = TT from HE.out).trans HT.out)
       go_wp2
       go_roundw
       case rel => exact ⟨i + 1, by go_num, by omega, HQ2, HF⟩
       case measure => simp [RowKit.intOf]; omega
   ·clear q0 s0 c0 c1 c2 d0 d1 d2 q0_0 s0_0 c0_0 c1_0 c2_0 d0_0 d1_0 d2_0 q0_1 s0_1 c0_1 c1_1 c2_1 d0_1 d1_1 d2_1 q0_2 s0_2 c0_2 c1_2 c2_2 d0_2 d1_2 d2_2 q0_3 s0_3 c0_3 c1_3 c2_3 d0_3 d1_3 d2_3 q0_4 s0_4 c0_4 c1_4 c2_4 d0_4 d1_4 d2_4 q0_5 s0_5 c0_5 c1_5 c2_5 d0_5 d1_5 d2_5 q0_6 s0_6 c0_6 c1_6 c2_6 d0_6 d1_6 d2_6 q0_7 s0_7 c0_7 c1_7 c2_7 d0_7 d1_7 d2_7 q0_8 s0_8 c0_8 c1_8 c2_8 d0_8 d1_8 d2_8 q0_9 s0_9 c0_9 c1_9 c2_9 d0_9 d1_9 d2_9
    obtain ⟨W, hW⟩ : ∃ W, W = ((wr.alloc (.cells #[.int .i64 m.id, .slice bl m.ls.length dl, .slice bp m.ps.length dp] 51)).alloc (.cells #[.int .i64 n.id, .slice al n.ls.length cl, .slice ap n.ps.length cp] 51)).drew := ⟨_, rfl⟩
    have fD : Fuw ((wr.alloc (.cells #[.int .i64 m.id, .slice bl m.ls.length dl, .slice bp m.ps.length dp] 51)).alloc (.cells #[.int .i64 n.id, .slice al n.ls.length cl, .slice ap n.ps.length cp] 51)) W := by rw [hW]; exact Fuw.drew (Fuw.refl _)
    have fW : Fuw wr W := ((fuwA _ _).trans (fuwA _ _)).trans fD
    have kn : Bk W (wr.heap.size + 1) #[.int .i64 n.id, .slice al n.ls.length cl, .slice ap n.ps.length cp] 51 := (bk2 _ _ _ _).on fD
    have km : Bk W wr.heap.size #[.int .i64 m.id, .slice bl m.ls.length dl, .slice bp m.ps.length dp] 51 := ((Bk.new _ _ _).on (fuwA _ _)).on fD
    rw [← hW]
    clear fD hW
    have c0 := kn.c 0
    have d0 := km.c 0
    have c1 := kn.c 1
    have d1 := km.c 1
    have c2 := kn.c 2
    have d2 := km.c 2
    have KN := Lib.hid kn
    have KM := Lib.hid km
    have FW := Lib.hid fW
    clear kn km fW
    cases h0 : (n.id == m.id) with
    | false =>
     have HZ := Lib.hid (show R = false by rw [HD.out, h0]; rfl)
     have e1 : (n.id != m.id) = true := by rw [bne, h0]; rfl
     clear h0
     go_wp2
     go_ret
     exact ⟨ret_bool HZ.out.symm, F0.out.trans (hf.out.trans FW.out)⟩
    | true =>
     have HE := Lib.hid (show R = ((r0 && r1) && TT) by rw [HD.out, h0]; rfl)
     have e1 : (n.id != m.id) = false := by rw [bne, h0]; rfl
     clear h0
     go_wp2_with fail
     go_at_call 65; refine (CS.out _ FW.out).mono ?_; rintro g1 w1 ⟨rfl, f1⟩
     have F1 := Lib.hid f1
     clear f1 c0 d0 c1 d1 c2 d2
     have c2 := (KN.out.on F1.out).c 2
     have d2 := (KM.out.on F1.out).c 2
     cases r0 with
     | false =>
      have HZ := Lib.hid (show R = false from HE.out)
      go_wp2
      go_ret
      exact ⟨ret_bool HZ.out.symm, F0.out.trans (hf.out.trans (FW.out.trans F1.out))⟩
     | true =>
      replace HE := Lib.hid (show R = (r1 && TT) from HE.out)
      go_wp2_with fail
      go_at_call 66; refine (CP.out _ (FW.out.trans F1.out)).mono ?_; rintro g2 w2 ⟨rfl, f2⟩
      have HF := Lib.hid (hf.out.trans ((FW.out.trans F1.out).trans f2))
      clear f2 c2 d2
      cases r1 with
      | false =>
       have HZ := Lib.hid (show R = false from HE.out)
       go_wp2
       go_ret
       exact ⟨ret_bool HZ.out.symm, F0.out.trans HF.out⟩
      | true =>
       have HQ2 := Lib.hid ((show R = TT from HE.out).trans HT.out)
       go_wp2
       go_roundw
       case rel => exact ⟨i + 1, by go_num, by omega, HQ2, HF⟩
       case measure => simp [RowKit.intOf]; omega
  ·have HQ1 := Lib.hid (show R = al2 samE (es.drop 0) (fs.drop 0) by rw [HQ.out, al2_end _ _ _ _ (by omega) (by have := HL.out; omega)]; rfl)
   go_wp2
   clear q0 q1 s0 s1
   go_loopw [8] (fun iv wx => ∃ i : Nat, iv = .int .i64 i ∧ i ≤ es.length ∧ Hid (R = al2 samE (es.drop i) (fs.drop i)) ∧ Hid (Fuw w0 wx)) (fun iv _ => es.length - (RowKit.intOf iv).toNat)
   case atStart => exact ⟨0, rfl, Nat.zero_le _, HQ1, hf⟩
   case round =>
    clear hf hlt hi HQ HQ1
    obtain ⟨i, rfl, hi, HQ, hf⟩ := hrel
    rename_i wr
    have q0 : wr.cell? ⟨w.heap.size, 0, none⟩ = some (.slice an ns.length cn) := (P0.out.on hf.out).c 0
    have q1 : wr.cell? ⟨w.heap.size, 1, none⟩ = some (.slice ae es.length ce) := (P0.out.on hf.out).c 1
    have s0 : wr.cell? ⟨w.heap.size + 1, 0, none⟩ = some (.slice bn ms.length dn) := (P1.out.on hf.out).c 0
    have s1 : wr.cell? ⟨w.heap.size + 1, 1, none⟩ = some (.slice be fs.length de) := (P1.out.on hf.out).c 1
    by_cases hlt : i < es.length
    ·have hlm : i < fs.length := by have := HL2.out; omega
     have hlt2 : (i : Int) < (es.length : Int) := by omega
     have hlm2 : (i : Int) < (fs.length : Int) := by omega
     obtain ⟨b, o, rfl, -, -, -, -, c0, c1, c2, c3, ap, cp, c4, sp⟩ := (slE_on hf.out H2.out).get hlt
     obtain ⟨b', o', rfl, -, -, -, -, d0, d1, d2, d3, bp, dp, d4, tp⟩ := (slE_on hf.out H4.out).get hlm
     have CP := Lib.hid (fun w' (h : Fuw wr w') => rsprop_any es[i].ps fs[i].ps ap bp cp dp w' (slP_on h sp) (slP_on h tp))
     obtain ⟨TT, hT⟩ : ∃ TT, TT = al2 samE (es.drop (i + 1)) (fs.drop (i + 1)) := ⟨_, rfl⟩
     have HT := Lib.hid hT
     have HD := Lib.hid (show R = (((es[i].id == fs[i].id) && ((es[i].fr == fs[i].fr) && ((es[i].to == fs[i].to) && ((es[i].ty == fs[i].ty) && al2 samP es[i].ps fs[i].ps)))) && TT) by
      rw [HQ.out, al2_drop samE es fs i hlt hlm, ← hT]; rfl)
     clear sp tp hT
     generalize al2 samP es[i].ps fs[i].ps = r1 at *
     generalize es[i] = n at *
     generalize fs[i] = m at *
     go_upto_region 12 with fail
     have f0 : Fuw wr (wr.alloc (.cells #[.int .i64 0, .int .i64 0, .int .i64 0, .string ⟨#[]⟩, .slice none 0 0] 53)) := fuwA _ _
     have q1_0 := cellOnw f0 q1
     have s1_0 := cellOnw f0 s1
     have c0_0 := cellOnw f0 c0
     have c1_0 := cellOnw f0 c1
     have c2_0 := cellOnw f0 c2
     have c3_0 := cellOnw f0 c3
     have c4_0 := cellOnw f0 c4
     have d0_0 := cellOnw f0 d0
     have d1_0 := cellOnw f0 d1
     have d2_0 := cellOnw f0 d2
     have d3_0 := cellOnw f0 d3
     have d4_0 := cellOnw f0 d4
     have f1 : Fuw wr (wr.alloc (.cells #[.int .i64 n.id, .int .i64 n.fr, .int .i64 n.to, .string (bs n.ty), .slice ap n.ps.length cp] 53)) := fuwA _ _
     have q1_1 := cellOnw f1 q1
     have s1_1 := cellOnw f1 s1
     have c0_1 := cellOnw f1 c0
     have c1_1 := cellOnw f1 c1
     have c2_1 := cellOnw f1 c2
     have c3_1 := cellOnw f1 c3
     have c4_1 := cellOnw f1 c4
     have d0_1 := cellOnw f1 d0
     have d1_1 := cellOnw f1 d1
     have d2_1 := cellOnw f1 d2
     have d3_1 := cellOnw f1 d3
     have d4_1 := cellOnw f1 d4
     have f2 : Fuw wr (wr.alloc (.cells #[.int .i64 m.id, .int .i64 m.fr, .int .i64 m.to, .string (bs m.ty), .slice bp m.ps.length dp] 53)) := fuwA _ _
     have q1_2 := cellOnw f2 q1
     have s1_2 := cellOnw f2 s1
     have c0_2 := cellOnw f2 c0
     have c1_2 := cellOnw f2 c1
     have c2_2 := cellOnw f2 c2
     have c3_2 := cellOnw f2 c3
     have c4_2 := cellOnw f2 c4
     have d0_2 := cellOnw f2 d0
     have d1_2 := cellOnw f2 d1
     have d2_2 := cellOnw f2 d2
     have d3_2 := cellOnw f2 d3
     have d4_2 := cellOnw f2 d4
     have f3 : Fuw wr ((wr.alloc (.cells #[.int .i64 0, .int .i64 0, .int .i64 0, .string ⟨#[]⟩, .slice none 0 0] 53)).alloc (.cells #[.int .i64 0, .int .i64 0, .int .i64 0, .string ⟨#[]⟩, .slice none 0 0] 53)) := (fuwA _ _).trans (fuwA _ _)
     have q1_3 := cellOnw f3 q1
     have s1_3 := cellOnw f3 s1
     have c0_3 := cellOnw f3 c0
     have c1_3 := cellOnw f3 c1
     have c2_3 := cellOnw f3 c2
     have c3_3 := cellOnw f3 c3
     have c4_3 := cellOnw f3 c4
     have d0_3 := cellOnw f3 d0
     have d1_3 := cellOnw f3 d1
     have d2_3 := cellOnw f3 d2
     have d3_3 := cellOnw f3 d3
     have d4_3 := cellOnw f3 d4
     have f4 : Fuw wr ((wr.alloc (.cells #[.int .i64 0, .int .i64 0, .int .i64 0, .string ⟨#[]⟩, .slice none 0 0] 53)).alloc (.cells #[.int .i64 n.id, .int .i64 n.fr, .int .i64 n.to, .string (bs n.ty), .slice ap n.ps.length cp] 53)) := (fuwA _ _).trans (fuwA _ _)
     have q1_4 := cellOnw f4 q1
     have s1_4 := cellOnw f4 s1
     have c0_4 := cellOnw f4 c0
     have c1_4 := cellOnw f4 c1
     have c2_4 := cellOnw f4 c2
     have c3_4 := cellOnw f4 c3
     have c4_4 := cellOnw f4 c4
     have d0_4 := cellOnw f4 d0
     have d1_4 := cellOnw f4 d1
     have d2_4 := cellOnw f4 d2
     have d3_4 := cellOnw f4 d3
     have d4_4 := cellOnw f4 d4
     have f5 : Fuw wr ((wr.alloc (.cells #[.int .i64 0, .int .i64 0, .int .i64 0, .string ⟨#[]⟩, .slice none 0 0] 53)).alloc (.cells #[.int .i64 m.id, .int .i64 m.fr, .int .i64 m.to, .string (bs m.ty), .slice bp m.ps.length dp] 53)) := (fuwA _ _).trans (fuwA _ _)
     have q1_5 := cellOnw f5 q1
     have s1_5 := cellOnw f5 s1
     have c0_5 := cellOnw f5 c0
     have c1_5 := cellOnw f5 c1
     have c2_5 := cellOnw f5 c2
     have c3_5 := cellOnw f5 c3
     have c4_5 := cellOnw f5 c4
     have d0_5 := cellOnw f5 d0
     have d1_5 := cellOnw f5 d1
     have d2_5 := cellOnw f5 d2
     have d3_5 := cellOnw f5 d3
     have d4_5 := cellOnw f5 d4
     have f6 : Fuw wr ((wr.alloc (.cells #[.int .i64 n.id, .int .i64 n.fr, .int .i64 n.to, .string (bs n.ty), .slice ap n.ps.length cp] 53)).alloc (.cells #[.int .i64 0, .int .i64 0, .int .i64 0, .string ⟨#[]⟩, .slice none 0 0] 53)) := (fuwA _ _).trans (fuwA _ _)
     have q1_6 := cellOnw f6 q1
     have s1_6 := cellOnw f6 s1
     have c0_6 := cellOnw f6 c0
     have c1_6 := cellOnw f6 c1
     have c2_6 := cellOnw f6 c2
     have c3_6 := cellOnw f6 c3
     have c4_6 := cellOnw f6 c4
     have d0_6 := cellOnw f6 d0
     have d1_6 := cellOnw f6 d1
     have d2_6 := cellOnw f6 d2
     have d3_6 := cellOnw f6 d3
     have d4_6 := cellOnw f6 d4
     have f7 : Fuw wr ((wr.alloc (.cells #[.int .i64 m.id, .int .i64 m.fr, .int .i64 m.to, .string (bs m.ty), .slice bp m.ps.length dp] 53)).alloc (.cells #[.int .i64 0, .int .i64 0, .int .i64 0, .string ⟨#[]⟩, .slice none 0 0] 53)) := (fuwA _ _).trans (fuwA _ _)
     have q1_7 := cellOnw f7 q1
     have s1_7 := cellOnw f7 s1
     have c0_7 := cellOnw f7 c0
     have c1_7 := cellOnw f7 c1
     have c2_7 := cellOnw f7 c2
     have c3_7 := cellOnw f7 c3
     have c4_7 := cellOnw f7 c4
     have d0_7 := cellOnw f7 d0
     have d1_7 := cellOnw f7 d1
     have d2_7 := cellOnw f7 d2
     have d3_7 := cellOnw f7 d3
     have d4_7 := cellOnw f7 d4
     have f8 : Fuw wr ((wr.alloc (.cells #[.int .i64 n.id, .int .i64 n.fr, .int .i64 n.to, .string (bs n.ty), .slice ap n.ps.length cp] 53)).alloc (.cells #[.int .i64 m.id, .int .i64 m.fr, .int .i64 m.to, .string (bs m.ty), .slice bp m.ps.length dp] 53)) := (fuwA _ _).trans (fuwA _ _)
     have q1_8 := cellOnw f8 q1
     have s1_8 := cellOnw f8 s1
     have c0_8 := cellOnw f8 c0
     have c1_8 := cellOnw f8 c1
     have c2_8 := cellOnw f8 c2
     have c3_8 := cellOnw f8 c3
     have c4_8 := cellOnw f8 c4
     have d0_8 := cellOnw f8 d0
     have d1_8 := cellOnw f8 d1
     have d2_8 := cellOnw f8 d2
     have d3_8 := cellOnw f8 d3
     have d4_8 := cellOnw f8 d4
     have f9 : Fuw wr ((wr.alloc (.cells #[.int .i64 m.id, .int .i64 m.fr, .int .i64 m.to, .string (bs m.ty), .slice bp m.ps.length dp] 53)).alloc (.cells #[.int .i64 n.id, .int .i64 n.fr, .int .i64 n.to, .string (bs n.ty), .slice ap n.ps.length cp] 53)) := (fuwA _ _).trans (fuwA _ _)
     have q1_9 := cellOnw f9 q1
     have s1_9 := cellOnw f9 s1
     have c0_9 := cellOnw f9 c0
     have c1_9 := cellOnw f9 c1
     have c2_9 := cellOnw f9 c2
     have c3_9 := cellOnw f9 c3
     have c4_9 := cellOnw f9 c4
     have d0_9 := cellOnw f9 d0
     have d1_9 := cellOnw f9 d1
     have d2_9 := cellOnw f9 d2
     have d3_9 := cellOnw f9 d3
     have d4_9 := cellOnw f9 d4
     clear q0 s0 f0 f1 f2 f3 f4 f5 f6 f7 f8 f9
     go_region
     ·clear q1 s1 c0 c1 c2 c3 c4 d0 d1 d2 d3 d4 q1_0 s1_0 c0_0 c1_0 c2_0 c3_0 c4_0 d0_0 d1_0 d2_0 d3_0 d4_0 q1_1 s1_1 c0_1 c1_1 c2_1 c3_1 c4_1 d0_1 d1_1 d2_1 d3_1 d4_1 q1_2 s1_2 c0_2 c1_2 c2_2 c3_2 c4_2 d0_2 d1_2 d2_2 d3_2 d4_2 q1_3 s1_3 c0_3 c1_3 c2_3 c3_3 c4_3 d0_3 d1_3 d2_3 d3_3 d4_3 q1_4 s1_4 c0_4 c1_4 c2_4 c3_4 c4_4 d0_4 d1_4 d2_4 d3_4 d4_4 q1_5 s1_5 c0_5 c1_5 c2_5 c3_5 c4_5 d0_5 d1_5 d2_5 d3_5 d4_5 q1_6 s1_6 c0_6 c1_6 c2_6 c3_6 c4_6 d0_6 d1_6 d2_6 d3_6 d4_6 q1_7 s1_7 c0_7 c1_7 c2_7 c3_7 c4_7 d0_7 d1_7 d2_7 d3_7 d4_7 q1_8 s1_8 c0_8 c1_8 c2_8 c3_8 c4_8 d0_8 d1_8 d2_8 d3_8 d4_8 q1_9 s1_9 c0_9 c1_9 c2_9 c3_9 c4_9 d0_9 d1_9 d2_9 d3_9 d4_9
      obtain ⟨W, hW⟩ : ∃ W, W = ((wr.alloc (.cells #[.int .i64 n.id, .int .i64 n.fr, .int .i64 n.to, .string (bs n.ty), .slice ap n.ps.length cp] 53)).alloc (.cells #[.int .i64 m.id, .int .i64 m.fr, .int .i64 m.to, .string (bs m.ty), .slice bp m.ps.length dp] 53)).drew := ⟨_, rfl⟩
      have fD : Fuw ((wr.alloc (.cells #[.int .i64 n.id, .int .i64 n.fr, .int .i64 n.to, .string (bs n.ty), .slice ap n.ps.length cp] 53)).alloc (.cells #[.int .i64 m.id, .int .i64 m.fr, .int .i64 m.to, .string (bs m.ty), .slice bp m.ps.length dp] 53)) W := by rw [hW]; exact Fuw.drew (Fuw.refl _)
      have fW : Fuw wr W := ((fuwA _ _).trans (fuwA _ _)).trans fD
      have kn : Bk W wr.heap.size #[.int .i64 n.id, .int .i64 n.fr, .int .i64 n.to, .string (bs n.ty), .slice ap n.ps.length cp] 53 := ((Bk.new _ _ _).on (fuwA _ _)).on fD
      have km : Bk W (wr.heap.size + 1) #[.int .i64 m.id, .int .i64 m.fr, .int .i64 m.to, .string (bs m.ty), .slice bp m.ps.length dp] 53 := (bk2 _ _ _ _).on fD
      rw [← hW]
      clear fD hW
      have c0 := kn.c 0
      have d0 := km.c 0
      have c1 := kn.c 1
      have d1 := km.c 1
      have c2 := kn.c 2
      have d2 := km.c 2
      have c3 := kn.c 3
      have d3 := km.c 3
      have c4 := kn.c 4
      have d4 := km.c 4
      have KN := Lib.hid kn
      have KM := Lib.hid km
      have FW := Lib.hid fW
      clear kn km fW
      cases h0 : (n.id == m.id) with
      | false =>
       have HZ := Lib.hid (show R = false by rw [HD.out, h0]; rfl)
       have e1 : (n.id != m.id) = true := by rw [bne, h0]; rfl
       clear h0
       go_wp2
       go_ret
       exact ⟨ret_bool HZ.out.symm, F0.out.trans (hf.out.trans FW.out)⟩
      | true =>
       have e1 : (n.id != m.id) = false := by rw [bne, h0]; rfl
       cases h1 : (n.fr == m.fr) with
       | false =>
        have HZ := Lib.hid (show R = false by rw [HD.out, h0, h1]; rfl)
        have e2 : (n.fr != m.fr) = true := by rw [bne, h1]; rfl
        clear h0 h1
        go_wp2
        go_ret
        exact ⟨ret_bool HZ.out.symm, F0.out.trans (hf.out.trans FW.out)⟩
       | true =>
        have e2 : (n.fr != m.fr) = false := by rw [bne, h1]; rfl
        cases h2 : (n.to == m.to) with
        | false =>
         have HZ := Lib.hid (show R = false by rw [HD.out, h0, h1, h2]; rfl)
         have e3 : (n.to != m.to) = true := by rw [bne, h2]; rfl
         clear h0 h1 h2
         go_wp2
         go_ret
         exact ⟨ret_bool HZ.out.symm, F0.out.trans (hf.out.trans FW.out)⟩
        | true =>
         have e3 : (n.to != m.to) = false := by rw [bne, h2]; rfl
         cases h3 : (n.ty == m.ty) with
         | false =>
          have HZ := Lib.hid (show R = false by rw [HD.out, h0, h1, h2, h3]; rfl)
          rw [← bs_eq] at h3
          have e4 : ((bs n.ty).toList != (bs m.ty).toList) = true := by rw [bne, h3]; rfl
          clear h0 h1 h2
          go_wp2
          go_ret
          exact ⟨ret_bool HZ.out.symm, F0.out.trans (hf.out.trans FW.out)⟩
         | true =>
          have HE := Lib.hid (show R = (r1 && TT) by rw [HD.out, h0, h1, h2, h3]; rfl)
          rw [← bs_eq] at h3
          have e4 : ((bs n.ty).toList != (bs m.ty).toList) = false := by rw [bne, h3]; rfl
          clear h0 h1 h2
          go_wp2_with fail
          go_at_call 66; refine (CP.out _ FW.out).mono ?_; rintro g2 w2 ⟨rfl, f2⟩
          have HF := Lib.hid (hf.out.trans (FW.out.trans f2))
          clear f2 c0 d0 c1 d1 c2 d2 c3 d3 c4 d4
          cases r1 with
          | false =>
           have HZ := Lib.hid (show R = false from HE.out)
           go_wp2
           go_ret
           exact ⟨ret_bool HZ.out.symm, F0.out.trans HF.out⟩
          | true =>
           have HQ2 := Lib.hid ((show R = TT from HE.out).trans HT.out)
           go_wp2
           go_roundw
           case rel => exact ⟨i + 1, by go_num, by omega, HQ2, HF⟩
           case measure => simp [RowKit.intOf]; omega
     ·clear q1 s1 c0 c1 c2 c3 c4 d0 d1 d2 d3 d4 q1_0 s1_0 c0_0 c1_0 c2_0 c3_0 c4_0 d0_0 d1_0 d2_0 d3_0 d4_0 q1_1 s1_1 c0_1 c1_1 c2_1 c3_1 c4_1 d0_1 d1_1 d2_1 d3_1 d4_1 q1_2 s1_2 c0_2 c1_2 c2_2 c3_2 c4_2 d0_2 d1_2 d2_2 d3_2 d4_2 q1_3 s1_3 c0_3 c1_3 c2_3 c3_3 c4_3 d0_3 d1_3 d2_3 d3_3 d4_3 q1_4 s1_4 c0_4 c1_4 c2_4 c3_4 c4_4 d0_4 d1_4 d2_4 d3_4 d4_4 q1_5 s1_5 c0_5 c1_5 c2_5 c3_5 c4_5 d0_5 d1_5 d2_5 d3_5 d4_5 q1_6 s1_6 c0_6 c1_6 c2_6 c3_6 c4_6 d0_6 d1_6 d2_6 d3_6 d4_6 q1_7 s1_7 c0_7 c1_7 c2_7 c3_7 c4_7 d0_7 d1_7 d2_7 d3_7 d4_7 q1_8 s1_8 c0_8 c1_8 c2_8 c3_8 c4_8 d0_8 d1_8 d2_8 d3_8 d4_8 q1_9 s1_9 c0_9 c1_9 c2_9 c3_9 c4_9 d0_9 d1_9 d2_9 d3_9 d4_9
      obtain ⟨W, hW⟩ : ∃ W, W = ((wr.alloc (.cells #[.int .i64 m.id, .int .i64 m.fr, .int .i64 m.to, .string (bs m.ty), .slice bp m.ps.length dp] 53)).alloc (.cells #[.int .i64 n.id, .int .i64 n.fr, .int .i64 n.to, .string (bs n.ty), .slice ap n.ps.length cp] 53)).drew := ⟨_, rfl⟩
      have fD : Fuw ((wr.alloc (.cells #[.int .i64 m.id, .int .i64 m.fr, .int .i64 m.to, .string (bs m.ty), .slice bp m.ps.length dp] 53)).alloc (.cells #[.int .i64 n.id, .int .i64 n.fr, .int .i64 n.to, .string (bs n.ty), .slice ap n.ps.length cp] 53)) W := by rw [hW]; exact Fuw.drew (Fuw.refl _)
      have fW : Fuw wr W := ((fuwA _ _).trans (fuwA _ _)).trans fD
      have kn : Bk W (wr.heap.size + 1) #[.int .i64 n.id, .int .i64 n.fr, .int .i64 n.to, .string (bs n.ty), .slice ap n.ps.length cp] 53 := (bk2 _ _ _ _).on fD
      have km : Bk W wr.heap.size #[.int .i64 m.id, .int .i64 m.fr, .int .i64 m.to, .string (bs m.ty), .slice bp m.ps.length dp] 53 := ((Bk.new _ _ _).on (fuwA _ _)).on fD
      rw [← hW]
      clear fD hW
      have c0 := kn.c 0
      have d0 := km.c 0
      have c1 := kn.c 1
      have d1 := km.c 1
      have c2 := kn.c 2
      have d2 := km.c 2
      have c3 := kn.c 3
      have d3 := km.c 3
      have c4 := kn.c 4
      have d4 := km.c 4
      have KN := Lib.hid kn
      have KM := Lib.hid km
      have FW := Lib.hid fW
      clear kn km fW
      cases h0 : (n.id == m.id) with
      | false =>
       have HZ := Lib.hid (show R = false by rw [HD.out, h0]; rfl)
       have e1 : (n.id != m.id) = true := by rw [bne, h0]; rfl
       clear h0
       go_wp2
       go_ret
       exact ⟨ret_bool HZ.out.symm, F0.out.trans (hf.out.trans FW.out)⟩
      | true =>
       have e1 : (n.id != m.id) = false := by rw [bne, h0]; rfl
       cases h1 : (n.fr == m.fr) with
       | false =>
        have HZ := Lib.hid (show R = false by rw [HD.out, h0, h1]; rfl)
        have e2 : (n.fr != m.fr) = true := by rw [bne, h1]; rfl
        clear h0 h1
        go_wp2
        go_ret
        exact ⟨ret_bool HZ.out.symm, F0.out.trans (hf.out.trans FW.out)⟩
       | true =>
        have e2 : (n.fr != m.fr) = false := by rw [bne, h1]; rfl
        cases h2 : (n.to == m.to) with
        | false =>
         have HZ := Lib.hid (show R = false by rw [HD.out, h0, h1, h2]; rfl)
         have e3 : (n.to != m.to) = true := by rw [bne, h2]; rfl
         clear h0 h1 h2
         go_wp2
         go_ret
         exact ⟨ret_bool HZ.out.symm, F0.out.trans (hf.out.trans FW.out)⟩
        | true =>
         have e3 : (n.to != m.to) = false := by rw [bne, h2]; rfl
         cases h3 : (n.ty == m.ty) with
         | false =>
          have HZ := Lib.hid (show R = false by rw [HD.out, h0, h1, h2, h3]; rfl)
          rw [← bs_eq] at h3
          have e4 : ((bs n.ty).toList != (bs m.ty).toList) = true := by rw [bne, h3]; rfl
          clear h0 h1 h2
          go_wp2
          go_ret
          exact ⟨ret_bool HZ.out.symm, F0.out.trans (hf.out.trans FW.out)⟩
         | true =>
          have HE := Lib.hid (show R = (r1 && TT) by rw [HD.out, h0, h1, h2, h3]; rfl)
          rw [← bs_eq] at h3
          have e4 : ((bs n.ty).toList != (bs m.ty).toList) = false := by rw [bne, h3]; rfl
          clear h0 h1 h2
          go_wp2_with fail
          go_at_call 66; refine (CP.out _ FW.out).mono ?_; rintro g2 w2 ⟨rfl, f2⟩
          have HF := Lib.hid (hf.out.trans (FW.out.trans f2))
          clear f2 c0 d0 c1 d1 c2 d2 c3 d3 c4 d4
          cases r1 with
          | false =>
           have HZ := Lib.hid (show R = false from HE.out)
           go_wp2
           go_ret
           exact ⟨ret_bool HZ.out.symm, F0.out.trans HF.out⟩
          | true =>
           have HQ2 := Lib.hid ((show R = TT from HE.out).trans HT.out)
           go_wp2
           go_roundw
           case rel => exact ⟨i + 1, by go_num, by omega, HQ2, HF⟩
           case measure => simp [RowKit.intOf]; omega
    ·have HZ := Lib.hid (show R = true by rw [HQ.out, al2_end _ _ _ _ (by omega) (by have := HL2.out; omega)])
     go_wp2
     go_ret
     exact ⟨ret_bool HZ.out.symm, F0.out.trans hf.out⟩
set_option maxHeartbeats 3200000 in
set_option maxRecDepth 100000 in
theorem rsame_any (g h : Gr) (an ae bn be : Option Addr) (cn ce dn de : Nat) (w : World) (hg : GIn w g an ae cn ce) (hh : GIn w h bn be dn de) :
  Calls Tryz.prog 11 #[.agg #[.slice an g.ns.length cn, .slice ae g.es.length ce, .int .i64 g.nn, .int .i64 g.ne], .agg #[.slice bn h.ns.length dn, .slice be h.es.length de, .int .i64 h.nn, .int .i64 h.ne]] w (FwB w (samG g h)) := by
 have p0 : Bk ((w.alloc (.cells #[.slice an g.ns.length cn, .slice ae g.es.length ce, .int .i64 g.nn, .int .i64 g.ne] 25)).alloc (.cells #[.slice bn h.ns.length dn, .slice be h.es.length de, .int .i64 h.nn, .int .i64 h.ne] 25)) w.heap.size #[.slice an g.ns.length cn, .slice ae g.es.length ce, .int .i64 g.nn, .int .i64 g.ne] 25 := (Bk.new w _ _).on (fuwA _ _)
 have p1 : Bk ((w.alloc (.cells #[.slice an g.ns.length cn, .slice ae g.es.length ce, .int .i64 g.nn, .int .i64 g.ne] 25)).alloc (.cells #[.slice bn h.ns.length dn, .slice be h.es.length de, .int .i64 h.nn, .int .i64 h.ne] 25)) (w.heap.size + 1) #[.slice bn h.ns.length dn, .slice be h.es.length de, .int .i64 h.nn, .int .i64 h.ne] 25 := bkw2 _ _ _ _
 have f0 : Fuw w ((w.alloc (.cells #[.slice an g.ns.length cn, .slice ae g.es.length ce, .int .i64 g.nn, .int .i64 g.ne] 25)).alloc (.cells #[.slice bn h.ns.length dn, .slice be h.es.length de, .int .i64 h.nn, .int .i64 h.ne] 25)) := (fuwA w _).trans (fuwA _ _)
 have HR := Lib.hid (show samG g h = ((g.nn == h.nn) && ((g.ne == h.ne) && (al2 samN g.ns h.ns && al2 samE g.es h.es))) from rfl)
 have HC := Lib.hid (fun w' (hf : Fuw w w') => rsparts_any g.ns h.ns g.es h.es an ae bn be cn ce dn de g.nn g.ne h.nn h.ne w' (slN_on hf hg.n) (slE_on hf hg.e) (slN_on hf hh.n) (slE_on hf hh.e))
 clear hg hh
 obtain ⟨R, hR⟩ : ∃ R, R = samG g h := ⟨_, rfl⟩
 rw [← hR] at HR ⊢
 clear hR
 obtain ⟨W, hW⟩ : ∃ W, ((w.alloc (.cells #[.slice an g.ns.length cn, .slice ae g.es.length ce, .int .i64 g.nn, .int .i64 g.ne] 25)).alloc (.cells #[.slice bn h.ns.length dn, .slice be h.es.length de, .int .i64 h.nn, .int .i64 h.ne] 25)) = W := ⟨_, rfl⟩
 rw [hW] at p0 p1 f0
 generalize (al2 samN g.ns h.ns && al2 samE g.es h.es) = r0 at *
 go_enter Tryz.func11, Tryz.ntmps11
 go_upto_region 1 with fail
 clear hW
 have c0 : W.cell? ⟨w.heap.size, 0, none⟩ = some (.slice an g.ns.length cn) := p0.c 0
 have d0 : W.cell? ⟨w.heap.size + 1, 0, none⟩ = some (.slice bn h.ns.length dn) := p1.c 0
 have c1 : W.cell? ⟨w.heap.size, 1, none⟩ = some (.slice ae g.es.length ce) := p0.c 1
 have d1 : W.cell? ⟨w.heap.size + 1, 1, none⟩ = some (.slice be h.es.length de) := p1.c 1
 have c2 : W.cell? ⟨w.heap.size, 2, none⟩ = some (.int .i64 g.nn) := p0.c 2
 have d2 : W.cell? ⟨w.heap.size + 1, 2, none⟩ = some (.int .i64 h.nn) := p1.c 2
 have c3 : W.cell? ⟨w.heap.size, 3, none⟩ = some (.int .i64 g.ne) := p0.c 3
 have d3 : W.cell? ⟨w.heap.size + 1, 3, none⟩ = some (.int .i64 h.ne) := p1.c 3
 have F0 := Lib.hid f0
 clear p0 p1 f0
 cases h0 : (g.nn == h.nn) with
 | false =>
  have HZ := Lib.hid (show R = false by
   try rw [bs_eq] at h0
   rw [HR.out, h0]; rfl)
  go_wp2
  go_ret
  exact ⟨ret_bool HZ.out.symm, F0.out⟩
 | true =>
  cases h1 : (g.ne == h.ne) with
  | false =>
   have HZ := Lib.hid (show R = false by
    try rw [bs_eq] at h0
    try rw [bs_eq] at h1
    rw [HR.out, h0, h1]; rfl)
   go_wp2
   go_ret
   exact ⟨ret_bool HZ.out.symm, F0.out⟩
  | true =>
   have HE := Lib.hid (show R = r0 by
    try rw [bs_eq] at h0
    try rw [bs_eq] at h1
    rw [HR.out, h0, h1]; rfl)
   go_wp2_with fail
   go_at_call 34; refine (HC.out _ F0.out).mono ?_; rintro e0 w0 ⟨rfl, f0⟩
   have G0 := Lib.hid (F0.out.trans f0)
   clear f0
   go_wp2
   go_ret
   exact ⟨ret_bool HE.out.symm, G0.out⟩
end Go.Proofs.YtpamdlkagmlahaaGreatDoor
