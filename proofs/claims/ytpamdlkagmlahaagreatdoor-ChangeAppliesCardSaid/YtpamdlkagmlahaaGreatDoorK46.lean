/-
  GsB; GsC; GsD; GsE; RbP: texts of one kind in one file; each part says what it holds.
-/
import Derived.Test.YtpamdlkagmlahaaGreatDoorK05
import Derived.Test.YtpamdlkagmlahaaGreatDoorK37
import Derived.Test.YtpamdlkagmlahaaGreatDoorK18
import Derived.Test.YtpamdlkagmlahaaGreatDoorK22
import Derived.Test.YtpamdlkagmlahaaGreatDoorK45

set_option maxHeartbeats 12800000
set_option maxRecDepth 100000
namespace Go.Proofs.YtpamdlkagmlahaaGreatDoor
open Go.RowKit
theorem rpar_any (ls : List (List UInt8)) (ps : List Pp) (al ap : Option Addr) (cl cp : Nat) (w : World) (hl : SlS w al ls cl) (hp : SlP w ap ps cp) :
  Calls Tryz.prog 90 #[.slice al ls.length cl, .slice ap ps.length cp] w (FwI w (parV ls ps)) := by
 have nl := hl.len
 have np := hp.len
 have HL := Lib.hid hl
 have HP := Lib.hid hp
 clear hl hp
 by_cases h8 : (8 : Int) < (ls.length : Int)
 ·have HE := Lib.hid (par_4 (ls := ls) (ps := ps) (.inl (by omega)))
  generalize parV ls ps = R at *
  go_enter Tryz.func90, Tryz.ntmps90
  go_wp2
  go_ret
  exact ⟨ret_int HE.out.symm, Fuw.refl _⟩
 ·by_cases h16 : (16 : Int) < (ps.length : Int)
  ·have HE := Lib.hid (par_4 (ls := ls) (ps := ps) (.inr (by omega)))
   generalize parV ls ps = R at *
   go_enter Tryz.func90, Tryz.ntmps90
   go_wp2
   go_ret
   exact ⟨ret_int HE.out.symm, Fuw.refl _⟩
  ·have HE := Lib.hid (par_c (ls := ls) (ps := ps) (by omega))
   have HC := Lib.hid (rkeys_any ps ap cp w HP.out (by omega))
   have HN := Lib.hid (fun w' (hf : Fuw w w') => rnames_any ls al cl w' (slS_on hf HL.out))
   have HR := Lib.hid (fun w' (hf : Fuw w w') => rises_any ls al cl w' (slS_on hf HL.out))
   have HN2 := Lib.hid (fun w' a c (hs : SlS w' a (keysV ps) c) => rnames_any (keysV ps) a c w' hs)
   have HR2 := Lib.hid (fun w' a c (hs : SlS w' a (keysV ps) c) => rises_any (keysV ps) a c w' hs)
   generalize keysV ps = ks at *
   generalize parV ls ps = R at *
   generalize ls.all nameV = n1 at *
   generalize ks.all nameV = n2 at *
   generalize risV ls = r1 at *
   generalize risV ks = r2 at *
   go_enter Tryz.func90, Tryz.ntmps90
   go_wp2_with fail
   go_at_call 127; refine HC.out.mono ?_; rintro e1 w1 ⟨a1, c1, rfl, hs1, f1⟩
   have HS1 := Lib.hid hs1
   clear hs1
   go_wp2_with fail
   go_at_call 128; refine (HN.out _ f1).mono ?_; rintro e2 w2 ⟨rfl, rfl⟩
   cases n1
   ·have HZ := Lib.hid (show R = 6 by rw [HE.out]; rfl)
    go_wp2
    go_ret
    exact ⟨ret_int HZ.out.symm, f1⟩
   ·go_wp2_with fail
    go_at_call 128; refine (HN2.out _ _ _ HS1.out).mono ?_; rintro e2 w2 ⟨rfl, rfl⟩
    cases n2
    ·have HZ := Lib.hid (show R = 6 by rw [HE.out]; rfl)
     go_wp2
     go_ret
     exact ⟨ret_int HZ.out.symm, f1⟩
    ·go_wp2_with fail
     go_at_call 129; refine (HR.out _ f1).mono ?_; rintro e2 w2 ⟨rfl, f2⟩
     cases r1
     ·have HZ := Lib.hid (show R = 26 by rw [HE.out]; rfl)
      go_wp2
      go_ret
      exact ⟨ret_int HZ.out.symm, f1.trans f2⟩
     ·go_wp2_with fail
      go_at_call 129; refine (HR2.out _ _ _ (slS_on f2 HS1.out)).mono ?_; rintro e3 w3 ⟨rfl, f3⟩
      cases r2
      ·have HZ := Lib.hid (show R = 26 by rw [HE.out]; rfl)
       go_wp2
       go_ret
       exact ⟨ret_int HZ.out.symm, (f1.trans f2).trans f3⟩
      ·have F := Lib.hid ((f1.trans f2).trans f3)
       have HZ := Lib.hid (show R = if (ps.drop 0).all (fun p => plnV p.v) = false then 8 else 0 from HE.out)
       clear f1 f2 f3 HE
       go_wp2
       go_loopw [6] (fun iv wr => ∃ i : Nat, iv = .int .i64 i ∧ i ≤ ps.length ∧ Hid (R = if (ps.drop i).all (fun p => plnV p.v) = false then 8 else 0) ∧ Hid (Fuw w wr)) (fun iv _ => ps.length - (RowKit.intOf iv).toNat)
       case atStart => exact ⟨0, rfl, Nat.zero_le _, HZ, F⟩
       case round =>
        obtain ⟨i, rfl, hi, HQ, hf⟩ := hrel
        by_cases hlt : i < ps.length
        ·obtain ⟨b, o, rfl, -, c0, hv⟩ := (slP_on hf.out HP.out).get hlt
         obtain ⟨hy, d1, d2, d3, d4, a5, k5, d5, hs5⟩ := VC_of hv
         have HA := Lib.hid (all_drop (fun p : Pp => plnV p.v) ps i hlt)
         have HM := Lib.hid (fun w' (hf' : Fuw wr w') => rplain_any ps[i].v a5 k5 w' hy (hs5.onw hf'))
         unfold vlv at HM
         clear hy hs5 hv
         generalize ps[i].v = x at *
         generalize ps[i].k = key at *
         generalize plnV x = p at *
         go_wp2_with fail
         go_at_call 33; refine (HM.out _ (Fuw.refl _)).mono ?_; rintro e4 w4 ⟨rfl, f4⟩
         have HF := Lib.hid (hf.out.trans f4)
         clear f4
         cases p
         ·have HT := Lib.hid (show R = 8 by rw [HQ.out, HA.out]; rfl)
          go_wp2
          go_ret
          exact ⟨ret_int HT.out.symm, HF.out⟩
         ·have HT := Lib.hid (show R = if (ps.drop (i + 1)).all (fun p => plnV p.v) = false then 8 else 0 by rw [HQ.out, HA.out]; rfl)
          go_wp2
          go_roundw
          case rel => exact ⟨i + 1, by go_num, by omega, HT, HF⟩
          case measure => simp [RowKit.intOf]; omega
        ·have HT := Lib.hid (show R = 0 by rw [HQ.out, all_end _ _ _ (by omega)]; rfl)
         go_wp2
         go_ret
         exact ⟨ret_int HT.out.symm, hf.out⟩
end Go.Proofs.YtpamdlkagmlahaaGreatDoor

namespace Go.Proofs.YtpamdlkagmlahaaGreatDoor
open Go.RowKit
theorem rnode_v (g : Gr) (an ae : Option Addr) (cn ce : Nat) (i : Nat) (w : World) (hg : GIn w g an ae cn ce) (hlt : i < g.ns.length) :
  Calls Tryz.prog 48 #[grv g an ae cn ce, .int .i64 (i : Int)] w (FwI w (ndV g.nn (prevN g.ns i) g.ns[i])) := by
 have HG := Lib.hid hg
 have l1 := hg.n.len
 have hb0 := GB.new w g an ae cn ce
 have f0 := fuwA w (.cells #[.slice an g.ns.length cn, .slice ae g.es.length ce, .int .i64 g.nn, .int .i64 g.ne] 25)
 obtain ⟨w0, hw0⟩ : ∃ w0, w0 = w.alloc (.cells #[.slice an g.ns.length cn, .slice ae g.es.length ce, .int .i64 g.nn, .int .i64 g.ne] 25) := ⟨_, rfl⟩
 rw [← hw0] at hb0 f0
 have HW0 := Lib.hid hw0
 have HB := Lib.hid hb0
 have F0 := Lib.hid f0
 obtain ⟨b, o, hao, h64, c0, ⟨al, cl, c1, hsl⟩, ap, cp, c2, hsp⟩ := (slN_on f0 hg.n).get hlt
 have HX := Lib.hid (show i = 0 ∧ badP (prevN g.ns i) g.ns[i].id = false ∨ ∃ (p : Nat) (hp : p < g.ns.length), i = p + 1 ∧ badP (prevN g.ns i) g.ns[i].id = decide (g.ns[i].id ≤ g.ns[p].id) ∧ w0.cell? ⟨b, o + p * 3, none⟩ = some (.int .i64 g.ns[p].id) from by
  rcases Nat.eq_zero_or_pos i with e | e
  ·subst e; exact .inl ⟨rfl, rfl⟩
  ·refine .inr ⟨i - 1, by omega, by omega, ?_, ?_⟩
   ·rw [prevN_p g.ns i (i - 1) (by omega) (by omega)]; rfl
   ·obtain ⟨b', o', hao', -, k0, -⟩ := (slN_on f0 hg.n).get (show i - 1 < g.ns.length by omega)
    rw [hao] at hao'
    cases hao'
    exact k0)
 have HC := Lib.hid (fun w' (hf' : Fuw w0 w') => rpar_any g.ns[i].ls g.ns[i].ps al ap cl cp w' (slS_on hf' hsl) (slP_on hf' hsp))
 have HP := Lib.hid (fun (h : badP (prevN g.ns i) g.ns[i].id = false) (h1 : ¬ g.ns[i].id < 1) (h2 : ¬ g.nn ≤ g.ns[i].id) => nd_p (nn := g.nn) h h1 h2)
 have H1 := Lib.hid (fun (h : badP (prevN g.ns i) g.ns[i].id = false) (h1 : g.ns[i].id < 1 ∨ g.nn ≤ g.ns[i].id) => nd_1 (nn := g.nn) h h1)
 have H26 := Lib.hid (fun (h : badP (prevN g.ns i) g.ns[i].id = true) => nd_26 (nn := g.nn) h)
 clear hw0 hb0 f0 hg h64 hsl hsp
 subst hao
 generalize g.ns[i] = x at *
 generalize badP (prevN g.ns i) x.id = bad at *
 generalize ndV g.nn (prevN g.ns i) x = R at *
 unfold grv
 go_enter Tryz.func48, Tryz.ntmps48
 go_upto_region 1 with fail
 rw [← HW0.out]
 have q0 := HB.out.c0; have q1 := HB.out.c1; have q2 := HB.out.c2; have q3 := HB.out.c3
 go_upto_region 2 with fail
 obtain ⟨W, hW⟩ : ∃ W, W = w0.alloc (.cells #[.int .i64 x.id, .slice al x.ls.length cl, .slice ap x.ps.length cp] 51) := ⟨_, rfl⟩
 have hfW : Fuw w0 W := by rw [hW]; exact fuwA _ _
 have hBn : Bk W w0.heap.size #[.int .i64 x.id, .slice al x.ls.length cl, .slice ap x.ps.length cp] 51 := by rw [hW]; exact Bk.new _ _ _
 rw [← hW]
 clear hW q0 q1 q2 q3 c0 c1 c2
 have q0 := (HB.out.on hfW).c0
 have q2 := (HB.out.on hfW).c2
 have d0 : W.cell? ⟨w0.heap.size, 0, none⟩ = some (.int .i64 x.id) := hBn.c 0
 have KB := Lib.hid hBn
 have FW := Lib.hid hfW
 clear hBn hfW
 rcases HX.out with ⟨hi0, hbad⟩ | ⟨p, hp, hi0, hbad, k0⟩
 ·have hd : decide (0 < i) = false := decide_eq_false (by omega)
  have HBD := Lib.hid hbad
  clear hi0 hbad
  go_wp2
  go_quiet (fail)
  clear hd
  have hb' : bad = false := HBD.out
  by_cases h1 : x.id < 1
  ·have HZ := Lib.hid (show R = 1 from H1.out hb' (.inl h1))
   clear hb'
   go_wp2
   go_ret
   exact ⟨ret_int HZ.out.symm, F0.out.trans (FW.out.trans (fuw_dr _ _))⟩
  ·by_cases h2 : g.nn ≤ x.id
   ·have HZ := Lib.hid (show R = 1 from H1.out hb' (.inr h2))
    clear hb'
    go_wp2
    go_ret
    exact ⟨ret_int HZ.out.symm, F0.out.trans (FW.out.trans (fuw_dr _ _))⟩
   ·have HZ := Lib.hid (HP.out hb' (by omega) (by omega))
    clear hb'
    have d1 : W.cell? ⟨w0.heap.size, 1, none⟩ = some (.slice al x.ls.length cl) := KB.out.c 1
    have d2 : W.cell? ⟨w0.heap.size, 2, none⟩ = some (.slice ap x.ps.length cp) := KB.out.c 2
    generalize parV x.ls x.ps = c at *
    go_wp2_with fail
    go_at_call 90; refine (HC.out _ (FW.out.trans (fuw_dr _ _))).mono ?_; rintro e1 w1 ⟨rfl, f1⟩
    go_wp2
    go_ret
    exact ⟨ret_int HZ.out.symm, F0.out.trans ((FW.out.trans (fuw_dr _ _)).trans f1)⟩
 ·have hd : decide (0 < i) = true := decide_eq_true (by omega)
  have k0' := cellOnw FW.out k0
  have k1 : IntKind.i64.wrap ((i : Int) - 1) = (p : Int) := by rw [show (i : Int) - 1 = p by omega]; exact IntWalk.i64_in _ (by omega)
  have k2 : (0 : Int) ≤ (p : Int) := by omega
  have k3 : (p : Int) < (g.ns.length : Int) := by omega
  have HBD := Lib.hid hbad
  clear hi0 k0 hbad
  generalize g.ns[p].id = pid at *
  by_cases hle : x.id ≤ pid
  ·have HZ := Lib.hid (show R = 26 from H26.out (by rw [HBD.out]; exact decide_eq_true hle))
   have hle' : decide (x.id ≤ pid) = true := decide_eq_true hle
   clear hle
   go_wp2
   go_quiet (fail)
   clear hd k1 hle'
   go_wp2
   go_ret
   exact ⟨ret_int HZ.out.symm, F0.out.trans (FW.out.trans (fuw_dr _ _))⟩
  ·have HBE := Lib.hid (show bad = false by rw [HBD.out]; exact decide_eq_false hle)
   have hle' : decide (x.id ≤ pid) = false := decide_eq_false hle
   clear hle
   go_wp2
   go_quiet (fail)
   clear hd k1 hle'
   have hb' : bad = false := HBE.out
   by_cases h1 : x.id < 1
   ·have HZ := Lib.hid (show R = 1 from H1.out hb' (.inl h1))
    clear hb'
    go_wp2
    go_ret
    exact ⟨ret_int HZ.out.symm, F0.out.trans (FW.out.trans (fuw_dr _ _))⟩
   ·by_cases h2 : g.nn ≤ x.id
    ·have HZ := Lib.hid (show R = 1 from H1.out hb' (.inr h2))
     clear hb'
     go_wp2
     go_ret
     exact ⟨ret_int HZ.out.symm, F0.out.trans (FW.out.trans (fuw_dr _ _))⟩
    ·have HZ := Lib.hid (HP.out hb' (by omega) (by omega))
     clear hb'
     have d1 : W.cell? ⟨w0.heap.size, 1, none⟩ = some (.slice al x.ls.length cl) := KB.out.c 1
     have d2 : W.cell? ⟨w0.heap.size, 2, none⟩ = some (.slice ap x.ps.length cp) := KB.out.c 2
     generalize parV x.ls x.ps = c at *
     go_wp2_with fail
     go_at_call 90; refine (HC.out _ (FW.out.trans (fuw_dr _ _))).mono ?_; rintro e1 w1 ⟨rfl, f1⟩
     go_wp2
     go_ret
     exact ⟨ret_int HZ.out.symm, F0.out.trans ((FW.out.trans (fuw_dr _ _)).trans f1)⟩
end Go.Proofs.YtpamdlkagmlahaaGreatDoor

namespace Go.Proofs.YtpamdlkagmlahaaGreatDoor
open Go.RowKit
theorem redge_v (g : Gr) (an ae : Option Addr) (cn ce : Nat) (i : Nat) (w : World) (hg : GIn w g an ae cn ce) (hlt : i < g.es.length) :
  Calls Tryz.prog 49 #[grv g an ae cn ce, .int .i64 (i : Int)] w (FwI w (edV g.ns g.ne (prevE g.es i) g.es[i])) := by
 have HG := Lib.hid hg
 have l1 := hg.e.len
 have hb0 := GB.new w g an ae cn ce
 have f0 := fuwA w (.cells #[.slice an g.ns.length cn, .slice ae g.es.length ce, .int .i64 g.nn, .int .i64 g.ne] 25)
 obtain ⟨w0, hw0⟩ : ∃ w0, w0 = w.alloc (.cells #[.slice an g.ns.length cn, .slice ae g.es.length ce, .int .i64 g.nn, .int .i64 g.ne] 25) := ⟨_, rfl⟩
 rw [← hw0] at hb0 f0
 have HW0 := Lib.hid hw0
 have HB := Lib.hid hb0
 have F0 := Lib.hid f0
 obtain ⟨b, o, hao, i1, i2, i3, ht, c0, c1, c2, c3, ap, cp, c4, hsp⟩ := (slE_on f0 hg.e).get hlt
 have HX := Lib.hid (show i = 0 ∧ badP (prevE g.es i) g.es[i].id = false ∨ ∃ (p : Nat) (hp : p < g.es.length), i = p + 1 ∧ badP (prevE g.es i) g.es[i].id = decide (g.es[i].id ≤ g.es[p].id) ∧ w0.cell? ⟨b, o + p * 5, none⟩ = some (.int .i64 g.es[p].id) from by
  rcases Nat.eq_zero_or_pos i with e | e
  ·subst e; exact .inl ⟨rfl, rfl⟩
  ·refine .inr ⟨i - 1, by omega, by omega, ?_, ?_⟩
   ·rw [prevE_p g.es i (i - 1) (by omega) (by omega)]; rfl
   ·obtain ⟨b', o', hao', -, -, -, -, k0, -⟩ := (slE_on f0 hg.e).get (show i - 1 < g.es.length by omega)
    rw [hao] at hao'
    cases hao'
    exact k0)
 have HC := Lib.hid (fun w' (hf' : Fuw w0 w') => rpar_any [] g.es[i].ps none ap 0 cp w' (Sl.empty _) (slP_on hf' hsp))
 have CF := Lib.hid (fun w' (hf' : Fuw w w') => rnode_any g an ae cn ce g.es[i].fr w' (HG.out.on hf'))
 have CT := Lib.hid (fun w' (hf' : Fuw w w') => rnode_any g an ae cn ce g.es[i].to w' (HG.out.on hf'))
 have HNM := Lib.hid (fun w' => rname_any (bs g.es[i].ty) w' (by rw [bs_size]; exact ht))
 rw [bs_data] at HNM
 have N1 := Lib.hid (nod_some g.ns g.es[i].fr)
 have N2 := Lib.hid (nod_some g.ns g.es[i].to)
 have HP := Lib.hid (fun (h : badP (prevE g.es i) g.es[i].id = false) (h1 : ¬ g.es[i].id < 1) (h2 : ¬ g.ne ≤ g.es[i].id) => ed_p (ns := g.ns) (ne := g.ne) h h1 h2)
 have H1 := Lib.hid (fun (h : badP (prevE g.es i) g.es[i].id = false) (h1 : g.es[i].id < 1 ∨ g.ne ≤ g.es[i].id) => ed_1 (ns := g.ns) (ne := g.ne) h h1)
 have H26 := Lib.hid (fun (h : badP (prevE g.es i) g.es[i].id = true) => ed_26 (ns := g.ns) (ne := g.ne) h)
 clear hw0 hb0 f0 hg i1 i2 i3 ht hsp
 subst hao
 generalize g.es[i] = x at *
 generalize badP (prevE g.es i) x.id = bad at *
 generalize edV g.ns g.ne (prevE g.es i) x = R at *
 unfold grv at *
 go_enter Tryz.func49, Tryz.ntmps49
 go_upto_region 1 with fail
 rw [← HW0.out]
 have q0 := HB.out.c0; have q1 := HB.out.c1; have q2 := HB.out.c2; have q3 := HB.out.c3
 go_upto_region 2 with fail
 obtain ⟨W, hW⟩ : ∃ W, W = w0.alloc (.cells #[.int .i64 x.id, .int .i64 x.fr, .int .i64 x.to, .string (bs x.ty), .slice ap x.ps.length cp] 53) := ⟨_, rfl⟩
 have hfW : Fuw w0 W := by rw [hW]; exact fuwA _ _
 have hBn : Bk W w0.heap.size #[.int .i64 x.id, .int .i64 x.fr, .int .i64 x.to, .string (bs x.ty), .slice ap x.ps.length cp] 53 := by rw [hW]; exact Bk.new _ _ _
 rw [← hW]
 clear hW q0 q1 q2 q3 c0 c1 c2 c3 c4
 have q1 := (HB.out.on hfW).c1
 have q3 := (HB.out.on hfW).c3
 have d0 : W.cell? ⟨w0.heap.size, 0, none⟩ = some (.int .i64 x.id) := hBn.c 0
 have KB := Lib.hid hBn
 have FW := Lib.hid hfW
 clear hBn hfW
 rcases HX.out with ⟨hi0, hbad⟩ | ⟨p, hp, hi0, hbad, k0⟩
 ·have hd : decide (0 < i) = false := decide_eq_false (by omega)
  have HBD := Lib.hid hbad
  clear hi0 hbad
  go_wp2
  go_quiet (fail)
  clear hd
  have hb' : bad = false := HBD.out
  by_cases h1 : x.id < 1
  ·have HZ := Lib.hid (show R = 1 from H1.out hb' (.inl h1))
   clear hb'
   go_wp2
   go_ret
   exact ⟨ret_int HZ.out.symm, F0.out.trans (FW.out.trans (fuw_dr _ _))⟩
  ·by_cases h2 : g.ne ≤ x.id
   ·have HZ := Lib.hid (show R = 1 from H1.out hb' (.inr h2))
    clear hb'
    go_wp2
    go_ret
    exact ⟨ret_int HZ.out.symm, F0.out.trans (FW.out.trans (fuw_dr _ _))⟩
   ·have HZ := Lib.hid (HP.out hb' (by omega) (by omega))
    clear hb'
    have q0 := (HB.out.on FW.out).c0; have q2 := (HB.out.on FW.out).c2
    have d1 : W.cell? ⟨w0.heap.size, 1, none⟩ = some (.int .i64 x.fr) := KB.out.c 1
    generalize parV [] x.ps = c at *
    go_wp2_with fail
    go_at_call 50; refine (CF.out _ (F0.out.trans (FW.out.trans (fuw_dr _ _)))).mono ?_; rintro e1 w1 ⟨al1, ap1, cl1, cp1, rfl, -, f1⟩
    rw [N1.out]
    generalize (nodV g.ns x.fr).getD nilN = m1 at *
    unfold ndv
    generalize hasN g.ns x.fr = n1 at *
    go_upto_region 7 with fail
    obtain ⟨W1, hW1⟩ : ∃ W, W = w1.alloc (.cells #[.int .i64 m1.id, .slice al1 m1.ls.length cl1, .slice ap1 m1.ps.length cp1] 51) := ⟨_, rfl⟩
    have g1 : Fuw w1 W1 := by rw [hW1]; exact fuwA _ _
    have F1 := Lib.hid (FW.out.trans ((fuw_dr _ _).trans (f1.trans g1)))
    have KB1 := Lib.hid (KB.out.on ((fuw_dr _ _).trans (f1.trans g1)))
    rw [← hW1]
    clear hW1 f1 g1 q0 q1 q2 q3 d0 d1
    have q0 := (HB.out.on F1.out).c0; have q1 := (HB.out.on F1.out).c1; have q2 := (HB.out.on F1.out).c2; have q3 := (HB.out.on F1.out).c3
    have d2 : W1.cell? ⟨w0.heap.size, 2, none⟩ = some (.int .i64 x.to) := KB1.out.c 2
    go_wp2_with fail
    go_at_call 50; refine (CT.out _ (F0.out.trans F1.out)).mono ?_; rintro e2 w2 ⟨al2, ap2, cl2, cp2, rfl, -, f2⟩
    rw [N2.out]
    generalize (nodV g.ns x.to).getD nilN = m2 at *
    unfold ndv
    generalize hasN g.ns x.to = n2 at *
    go_upto_region 8 with fail
    obtain ⟨W2, hW2⟩ : ∃ W, W = w2.alloc (.cells #[.int .i64 m2.id, .slice al2 m2.ls.length cl2, .slice ap2 m2.ps.length cp2] 51) := ⟨_, rfl⟩
    have g2 : Fuw w2 W2 := by rw [hW2]; exact fuwA _ _
    have F2 := Lib.hid (F1.out.trans (f2.trans g2))
    have d3 : W2.cell? ⟨w0.heap.size, 3, none⟩ = some (.string (bs x.ty)) := (KB1.out.on (f2.trans g2)).c 3
    have d4 : W2.cell? ⟨w0.heap.size, 4, none⟩ = some (.slice ap x.ps.length cp) := (KB1.out.on (f2.trans g2)).c 4
    rw [← hW2]
    clear hW2 f2 g2 q0 q1 q2 q3 d2
    generalize nameV x.ty = n3 at *
    cases n1
    ·have HY := Lib.hid (show R = 10 by rw [HZ.out]; rfl)
     go_wp2
     go_ret
     exact ⟨ret_int HY.out.symm, F0.out.trans F2.out⟩
    ·cases n2
     ·have HY := Lib.hid (show R = 10 by rw [HZ.out]; rfl)
      go_wp2
      go_ret
      exact ⟨ret_int HY.out.symm, F0.out.trans F2.out⟩
     ·go_wp2_with fail
      go_at_call 32; refine (HNM.out _).mono ?_; rintro e3 w3 ⟨rfl, rfl⟩
      cases n3
      ·have HY := Lib.hid (show R = 6 by rw [HZ.out]; rfl)
       go_wp2
       go_ret
       exact ⟨ret_int HY.out.symm, F0.out.trans F2.out⟩
      ·have HY := Lib.hid (show R = c by rw [HZ.out]; rfl)
       go_wp2_with fail
       go_at_call 90; refine (HC.out _ F2.out).mono ?_; rintro e4 w4 ⟨rfl, f4⟩
       go_wp2
       go_ret
       exact ⟨ret_int HY.out.symm, F0.out.trans (F2.out.trans f4)⟩
 ·have hd : decide (0 < i) = true := decide_eq_true (by omega)
  have k0' := cellOnw FW.out k0
  have k1 : IntKind.i64.wrap ((i : Int) - 1) = (p : Int) := by rw [show (i : Int) - 1 = p by omega]; exact IntWalk.i64_in _ (by omega)
  have k2 : (0 : Int) ≤ (p : Int) := by omega
  have k3 : (p : Int) < (g.es.length : Int) := by omega
  have HBD := Lib.hid hbad
  clear hi0 k0 hbad
  generalize g.es[p].id = pid at *
  by_cases hle : x.id ≤ pid
  ·have HZ := Lib.hid (show R = 26 from H26.out (by rw [HBD.out]; exact decide_eq_true hle))
   have hle' : decide (x.id ≤ pid) = true := decide_eq_true hle
   clear hle
   go_wp2
   go_quiet (fail)
   clear hd k1 hle'
   go_wp2
   go_ret
   exact ⟨ret_int HZ.out.symm, F0.out.trans (FW.out.trans (fuw_dr _ _))⟩
  ·have HBE := Lib.hid (show bad = false by rw [HBD.out]; exact decide_eq_false hle)
   have hle' : decide (x.id ≤ pid) = false := decide_eq_false hle
   clear hle
   go_wp2
   go_quiet (fail)
   clear hd k1 hle'
   have hb' : bad = false := HBE.out
   by_cases h1 : x.id < 1
   ·have HZ := Lib.hid (show R = 1 from H1.out hb' (.inl h1))
    clear hb'
    go_wp2
    go_ret
    exact ⟨ret_int HZ.out.symm, F0.out.trans (FW.out.trans (fuw_dr _ _))⟩
   ·by_cases h2 : g.ne ≤ x.id
    ·have HZ := Lib.hid (show R = 1 from H1.out hb' (.inr h2))
     clear hb'
     go_wp2
     go_ret
     exact ⟨ret_int HZ.out.symm, F0.out.trans (FW.out.trans (fuw_dr _ _))⟩
    ·have HZ := Lib.hid (HP.out hb' (by omega) (by omega))
     clear hb'
     have q0 := (HB.out.on FW.out).c0; have q2 := (HB.out.on FW.out).c2
     have d1 : W.cell? ⟨w0.heap.size, 1, none⟩ = some (.int .i64 x.fr) := KB.out.c 1
     generalize parV [] x.ps = c at *
     go_wp2_with fail
     go_at_call 50; refine (CF.out _ (F0.out.trans (FW.out.trans (fuw_dr _ _)))).mono ?_; rintro e1 w1 ⟨al1, ap1, cl1, cp1, rfl, -, f1⟩
     rw [N1.out]
     generalize (nodV g.ns x.fr).getD nilN = m1 at *
     unfold ndv
     generalize hasN g.ns x.fr = n1 at *
     go_upto_region 7 with fail
     obtain ⟨W1, hW1⟩ : ∃ W, W = w1.alloc (.cells #[.int .i64 m1.id, .slice al1 m1.ls.length cl1, .slice ap1 m1.ps.length cp1] 51) := ⟨_, rfl⟩
     have g1 : Fuw w1 W1 := by rw [hW1]; exact fuwA _ _
     have F1 := Lib.hid (FW.out.trans ((fuw_dr _ _).trans (f1.trans g1)))
     have KB1 := Lib.hid (KB.out.on ((fuw_dr _ _).trans (f1.trans g1)))
     rw [← hW1]
     clear hW1 f1 g1 q0 q1 q2 q3 d0 d1
     have q0 := (HB.out.on F1.out).c0; have q1 := (HB.out.on F1.out).c1; have q2 := (HB.out.on F1.out).c2; have q3 := (HB.out.on F1.out).c3
     have d2 : W1.cell? ⟨w0.heap.size, 2, none⟩ = some (.int .i64 x.to) := KB1.out.c 2
     go_wp2_with fail
     go_at_call 50; refine (CT.out _ (F0.out.trans F1.out)).mono ?_; rintro e2 w2 ⟨al2, ap2, cl2, cp2, rfl, -, f2⟩
     rw [N2.out]
     generalize (nodV g.ns x.to).getD nilN = m2 at *
     unfold ndv
     generalize hasN g.ns x.to = n2 at *
     go_upto_region 8 with fail
     obtain ⟨W2, hW2⟩ : ∃ W, W = w2.alloc (.cells #[.int .i64 m2.id, .slice al2 m2.ls.length cl2, .slice ap2 m2.ps.length cp2] 51) := ⟨_, rfl⟩
     have g2 : Fuw w2 W2 := by rw [hW2]; exact fuwA _ _
     have F2 := Lib.hid (F1.out.trans (f2.trans g2))
     have d3 : W2.cell? ⟨w0.heap.size, 3, none⟩ = some (.string (bs x.ty)) := (KB1.out.on (f2.trans g2)).c 3
     have d4 : W2.cell? ⟨w0.heap.size, 4, none⟩ = some (.slice ap x.ps.length cp) := (KB1.out.on (f2.trans g2)).c 4
     rw [← hW2]
     clear hW2 f2 g2 q0 q1 q2 q3 d2
     generalize nameV x.ty = n3 at *
     cases n1
     ·have HY := Lib.hid (show R = 10 by rw [HZ.out]; rfl)
      go_wp2
      go_ret
      exact ⟨ret_int HY.out.symm, F0.out.trans F2.out⟩
     ·cases n2
      ·have HY := Lib.hid (show R = 10 by rw [HZ.out]; rfl)
       go_wp2
       go_ret
       exact ⟨ret_int HY.out.symm, F0.out.trans F2.out⟩
      ·go_wp2_with fail
       go_at_call 32; refine (HNM.out _).mono ?_; rintro e3 w3 ⟨rfl, rfl⟩
       cases n3
       ·have HY := Lib.hid (show R = 6 by rw [HZ.out]; rfl)
        go_wp2
        go_ret
        exact ⟨ret_int HY.out.symm, F0.out.trans F2.out⟩
       ·have HY := Lib.hid (show R = c by rw [HZ.out]; rfl)
        go_wp2_with fail
        go_at_call 90; refine (HC.out _ F2.out).mono ?_; rintro e4 w4 ⟨rfl, f4⟩
        go_wp2
        go_ret
        exact ⟨ret_int HY.out.symm, F0.out.trans (F2.out.trans f4)⟩
end Go.Proofs.YtpamdlkagmlahaaGreatDoor

namespace Go.Proofs.YtpamdlkagmlahaaGreatDoor
open Go.RowKit
theorem chk_1 {g : Gr} (h : g.ns.length ≤ 2000) (h' : g.es.length ≤ 4000) (hx : g.nn < 1 ∨ 1000001 < g.nn ∨ g.ne < 1 ∨ 1000001 < g.ne) : chkV g = 1 := by
 rw [chk_c h h', if_pos]
 unfold nxtV
 simp only [Bool.and_eq_false_iff, decide_eq_false_iff_not]
 omega
theorem chk_2 {g : Gr} (h : g.ns.length ≤ 2000) (h' : g.es.length ≤ 4000) (a1 : ¬ g.nn < 1) (a2 : ¬ 1000001 < g.nn) (a3 : ¬ g.ne < 1) (a4 : ¬ 1000001 < g.ne) :
  chkV g = if nsV g.nn (prevN g.ns 0) (g.ns.drop 0) = 0 then esV g.ns g.ne none g.es else nsV g.nn (prevN g.ns 0) (g.ns.drop 0) := by
 rw [chk_c h h', if_neg]
 ·rfl
 ·unfold nxtV
  simp only [Bool.and_eq_false_iff, decide_eq_false_iff_not]
  omega
theorem rcheck_any (g : Gr) (an ae : Option Addr) (cn ce : Nat) (w : World) (hg : GIn w g an ae cn ce) :
  Calls Tryz.prog 20 #[grv g an ae cn ce] w (FwI w (chkV g)) := by
 have hb0 := GB.new w g an ae cn ce
 have f0 := fuwA w (.cells #[.slice an g.ns.length cn, .slice ae g.es.length ce, .int .i64 g.nn, .int .i64 g.ne] 25)
 have HG := Lib.hid hg
 have HB := Lib.hid hb0
 have F0 := Lib.hid f0
 have hl1 := hg.n.len
 have hl2 := hg.e.len
 clear hg hb0 f0
 by_cases h1 : (2000 : Int) < (g.ns.length : Int)
 ·have HZ := Lib.hid (chk_4 (g := g) (.inl (by omega)))
  generalize chkV g = R at *
  unfold grv
  go_enter Tryz.func20, Tryz.ntmps20
  go_wp2
  go_ret
  exact ⟨ret_int HZ.out.symm, F0.out⟩
 ·by_cases h2 : (4000 : Int) < (g.es.length : Int)
  ·have HZ := Lib.hid (chk_4 (g := g) (.inr (by omega)))
   generalize chkV g = R at *
   unfold grv
   go_enter Tryz.func20, Tryz.ntmps20
   go_wp2
   go_ret
   exact ⟨ret_int HZ.out.symm, F0.out⟩
  ·have b1 : g.ns.length ≤ 2000 := by omega
   have b2 : g.es.length ≤ 4000 := by omega
   by_cases a : g.nn < 1 ∨ 1000001 < g.nn ∨ g.ne < 1 ∨ 1000001 < g.ne
   ·have HZ := Lib.hid (chk_1 b1 b2 a)
    generalize chkV g = R at *
    unfold grv
    by_cases a1 : g.nn < 1
    ·clear a
     go_enter Tryz.func20, Tryz.ntmps20
     go_wp2
     go_ret
     exact ⟨ret_int HZ.out.symm, F0.out⟩
    ·by_cases a2 : 1000001 < g.nn
     ·clear a
      go_enter Tryz.func20, Tryz.ntmps20
      go_wp2
      go_ret
      exact ⟨ret_int HZ.out.symm, F0.out⟩
     ·by_cases a3 : g.ne < 1
      ·clear a
       go_enter Tryz.func20, Tryz.ntmps20
       go_wp2
       go_ret
       exact ⟨ret_int HZ.out.symm, F0.out⟩
      ·have a4 : 1000001 < g.ne := by omega
       clear a
       go_enter Tryz.func20, Tryz.ntmps20
       go_wp2
       go_ret
       exact ⟨ret_int HZ.out.symm, F0.out⟩
   ·have a1 : ¬ g.nn < 1 := by omega
    have a2 : ¬ 1000001 < g.nn := by omega
    have a3 : ¬ g.ne < 1 := by omega
    have a4 : ¬ 1000001 < g.ne := by omega
    have HZ := Lib.hid (chk_2 b1 b2 a1 a2 a3 a4)
    have HCN := Lib.hid (fun w' (hf : Fuw w w') (i : Nat) (h : i < g.ns.length) => rnode_v g an ae cn ce i w' (HG.out.on hf) h)
    have HCE := Lib.hid (fun w' (hf : Fuw w w') (i : Nat) (h : i < g.es.length) => redge_v g an ae cn ce i w' (HG.out.on hf) h)
    have HDN := Lib.hid (fun (i : Nat) (h : i < g.ns.length) => nsV_drop g.nn g.ns i h)
    have HDE := Lib.hid (fun (i : Nat) (h : i < g.es.length) => esV_drop g.ns g.ne g.es i h)
    clear a b1 b2
    obtain ⟨D, hD⟩ : ∃ D, D = esV g.ns g.ne none g.es := ⟨_, rfl⟩
    rw [← hD] at HZ
    have HD := Lib.hid (show D = esV g.ns g.ne (prevE g.es 0) (g.es.drop 0) from hD)
    clear hD
    generalize chkV g = R at *
    unfold grv at *
    obtain ⟨w0, hw0⟩ : ∃ w0, w0 = w.alloc (.cells #[.slice an g.ns.length cn, .slice ae g.es.length ce, .int .i64 g.nn, .int .i64 g.ne] 25) := ⟨_, rfl⟩
    rw [← hw0] at F0 HB
    have HW0 := Lib.hid hw0
    clear hw0
    go_enter Tryz.func20, Tryz.ntmps20
    go_upto_region 1 with fail
    rw [← HW0.out]
    have q0 := HB.out.c0; have q1 := HB.out.c1; have q2 := HB.out.c2; have q3 := HB.out.c3
    go_wp2
    clear q0 q1 q2 q3
    go_loopw [3] (fun iv wr => ∃ i : Nat, iv = .int .i64 i ∧ i ≤ g.ns.length ∧ Hid (R = if nsV g.nn (prevN g.ns i) (g.ns.drop i) = 0 then D else nsV g.nn (prevN g.ns i) (g.ns.drop i)) ∧ Hid (Fuw w0 wr)) (fun iv _ => g.ns.length - (RowKit.intOf iv).toNat)
    case atStart => exact ⟨0, rfl, Nat.zero_le _, HZ, Fuw.refl _⟩
    case round =>
     obtain ⟨i, rfl, hi, HQ, hf⟩ := hrel
     have q0 := (HB.out.on hf.out).c0; have q1 := (HB.out.on hf.out).c1; have q2 := (HB.out.on hf.out).c2; have q3 := (HB.out.on hf.out).c3
     by_cases hlt : i < g.ns.length
     ·have HC := Lib.hid (HCN.out _ (F0.out.trans hf.out) i hlt)
      have HA := Lib.hid (HDN.out i hlt)
      generalize ndV g.nn (prevN g.ns i) g.ns[i] = c at *
      go_wp2_with fail
      go_at_call 48; refine HC.out.mono ?_; rintro e1 w1 ⟨rfl, f1⟩
      have HF := Lib.hid (hf.out.trans f1)
      clear f1 q0 q1 q2 q3
      by_cases hc : c = 0
      ·have HY := Lib.hid (show R = if nsV g.nn (prevN g.ns (i + 1)) (g.ns.drop (i + 1)) = 0 then D else nsV g.nn (prevN g.ns (i + 1)) (g.ns.drop (i + 1)) by
        rw [HQ.out, HA.out, if_pos hc])
       subst hc
       go_wp2
       go_roundw
       case rel => exact ⟨i + 1, by go_num, by omega, HY, HF⟩
       case measure => simp [RowKit.intOf]; omega
      ·have HY := Lib.hid (show R = c by rw [HQ.out, HA.out, if_neg hc, if_neg hc])
       have hc' : (c != 0) = true := by rw [bne_iff_ne]; exact hc
       clear hc
       go_wp2
       go_ret
       exact ⟨ret_int HY.out.symm, F0.out.trans HF.out⟩
     ·have HY := Lib.hid (show R = esV g.ns g.ne (prevE g.es 0) (g.es.drop 0) by
       rw [HQ.out, List.drop_of_length_le (show g.ns.length ≤ i by omega), ← HD.out]; rfl)
      go_wp2
      clear q0 q1 q2 q3
      go_loopw [5] (fun iv wx => ∃ i : Nat, iv = .int .i64 i ∧ i ≤ g.es.length ∧ Hid (R = esV g.ns g.ne (prevE g.es i) (g.es.drop i)) ∧ Hid (Fuw w0 wx)) (fun iv _ => g.es.length - (RowKit.intOf iv).toNat)
      case atStart => exact ⟨0, rfl, Nat.zero_le _, HY, hf⟩
      case round =>
       clear hf hlt hi HY HQ
       obtain ⟨i, rfl, hi, HQ, hf⟩ := hrel
       have q0 := (HB.out.on hf.out).c0; have q1 := (HB.out.on hf.out).c1; have q2 := (HB.out.on hf.out).c2; have q3 := (HB.out.on hf.out).c3
       by_cases hlt : i < g.es.length
       ·have HC := Lib.hid (HCE.out _ (F0.out.trans hf.out) i hlt)
        have HA := Lib.hid (HQ.out.trans (HDE.out i hlt))
        generalize edV g.ns g.ne (prevE g.es i) g.es[i] = c at *
        go_wp2_with fail
        go_at_call 49; refine HC.out.mono ?_; rintro e1 w1 ⟨rfl, f1⟩
        have HF := Lib.hid (hf.out.trans f1)
        clear f1 q0 q1 q2 q3
        by_cases hc : c = 0
        ·have HY := Lib.hid (show R = esV g.ns g.ne (prevE g.es (i + 1)) (g.es.drop (i + 1)) by rw [HA.out, if_pos hc])
         subst hc
         go_wp2
         go_roundw
         case rel => exact ⟨i + 1, by go_num, by omega, HY, HF⟩
         case measure => simp [RowKit.intOf]; omega
        ·have HY := Lib.hid (show R = c by rw [HA.out, if_neg hc])
         have hc' : (c != 0) = true := by rw [bne_iff_ne]; exact hc
         clear hc
         go_wp2
         go_ret
         exact ⟨ret_int HY.out.symm, F0.out.trans HF.out⟩
       ·have HY := Lib.hid (show R = 0 by rw [HQ.out, List.drop_of_length_le (show g.es.length ≤ i by omega)]; rfl)
        go_wp2
        go_ret
        exact ⟨ret_int HY.out.symm, F0.out.trans hf.out⟩
end Go.Proofs.YtpamdlkagmlahaaGreatDoor

namespace Go.Proofs.YtpamdlkagmlahaaGreatDoor
open Go.RowKit
theorem app_T {g : Gr} {c : Ch} (hf : Fine g) : appG g [c] = stpT g c := by
 have h := app_one (c := c) hf
 by_cases q : stpE g c = 0
 ·rw [stpT_ok q, h.2 q]
 ·rw [stpT_no q]
  unfold appG
  rw [if_neg (by rw [h.1]; exact q)]
theorem rapply8_any (g : Gr) (an ae : Option Addr) (cn ce : Nat) (c : Ch) (a : Option Addr) (k : Nat) (w : World) (hg : GIn w g an ae cn ce) (hi : ChIn w c a k) :
  Calls Tryz.prog 8 #[grv g an ae cn ce, .agg (chC c a k)] w (RetSt w (appE g [c]).2 (appG g [c])) := by
 obtain ⟨W, hW⟩ : ∃ W, W = ((w.alloc (.cells #[.slice an g.ns.length cn, .slice ae g.es.length ce, .int .i64 g.nn, .int .i64 g.ne] 25)).alloc (.cells (chC c a k) 30)).alloc (.cells #[.slice none 0 0, .slice none 0 0, .int .i64 0, .int .i64 0] 25) := ⟨_, rfl⟩
 have fW : Fuw w W := by rw [hW]; exact ((fuwA _ _).trans (fuwA _ _)).trans (fuwA _ _)
 have HG := Lib.hid (show Bk W w.heap.size #[.slice an g.ns.length cn, .slice ae g.es.length ce, .int .i64 g.nn, .int .i64 g.ne] 25 from by rw [hW]; exact (Bk.new w _ _).on ((fuwA _ _).trans (fuwA _ _)))
 have HC := Lib.hid (show Bk W (w.heap.size + 1) (chC c a k) 30 from by
  rw [hW]
  have := Bk.new (w.alloc (.cells #[.slice an g.ns.length cn, .slice ae g.es.length ce, .int .i64 g.nn, .int .i64 g.ne] 25)) (chC c a k) 30
  exact Bk.on (by simpa using this) (fuwA _ _))
 have HZ := Lib.hid (show Bk W (w.heap.size + 1 + 1) #[.slice none 0 0, .slice none 0 0, .int .i64 0, .int .i64 0] 25 from by
  rw [hW]
  have := Bk.new ((w.alloc (.cells #[.slice an g.ns.length cn, .slice ae g.es.length ce, .int .i64 g.nn, .int .i64 g.ne] 25)).alloc (.cells (chC c a k) 30)) #[.slice none 0 0, .slice none 0 0, .int .i64 0, .int .i64 0] 25
  simpa using this)
 have HFW := Lib.hid fW
 have HGI := Lib.hid hg
 have HCI := Lib.hid hi
 have HCK := Lib.hid (rcheck_any g an ae cn ce W (hg.on fW))
 obtain ⟨q, hq⟩ : ∃ q, q = chkV g := ⟨_, rfl⟩
 rw [← hq] at HCK
 have HQ := Lib.hid hq
 obtain ⟨EE, hEE⟩ : ∃ EE, EE = (appE g [c]).2 := ⟨_, rfl⟩
 obtain ⟨TT, hTT⟩ : ∃ TT, TT = appG g [c] := ⟨_, rfl⟩
 rw [← hEE, ← hTT]
 have HEE := Lib.hid hEE
 have HTT := Lib.hid hTT
 obtain ⟨g0, g1, g2, g3⟩ := HG.out.g4
 obtain ⟨d0, d1, d2, d3, d4, d5, d6, d7, d8, d9⟩ := HC.out.ch
 unfold chC at hW
 unfold grv at HCK ⊢
 unfold chC
 clear fW hg hi hq hEE hTT
 go_enter Tryz.func8, Tryz.ntmps8
 go_upto_region 1 with fail
 rw [← hW]
 clear hW
 go_wp2_with fail
 go_at_call 20; refine HCK.out.mono ?_; rintro e1 w1 ⟨rfl, f1⟩
 have HF1 := Lib.hid (HFW.out.trans f1)
 have HG1 := Lib.hid (HG.out.on f1)
 have HC1 := Lib.hid (HC.out.on f1)
 have HZ1 := Lib.hid (HZ.out.on f1)
 clear HCK f1 HG HC HZ
 clear g0 g1 g2 g3 d0 d1 d2 d3 d4 d5 d6 d7 d8 d9
 by_cases hq0 : q = 0
 ·subst hq0
  have HFI := Lib.hid ((fine_iff g).1 HQ.out.symm)
  have HR := Lib.hid (show Calls Tryz.prog 21 #[grv g an ae cn ce, .agg (chC c a k)] w1 (RetSt w1 EE TT) from by
   rw [HEE.out, HTT.out, (app_one HFI.out).1, app_T HFI.out]
   exact rstep8_any g an ae cn ce c a k w1 (HGI.out.on HF1.out) HFI.out (HCI.out.on HF1.out))
  have HFL := Lib.hid (show Flat TT from by rw [HTT.out, app_T HFI.out]; exact stpT_flat HFI.out)
  unfold RetSt grv chC at HR
  obtain ⟨g0, g1, g2, g3⟩ := HG1.out.g4
  obtain ⟨d0, d1, d2, d3, d4, d5, d6, d7, d8, d9⟩ := HC1.out.ch
  go_wp2_with fail
  go_at_call 21; refine HR.out.mono ?_; rintro e4 w4 ⟨xn, xe, yn, ye, rfl, hg4, f4⟩
  have HF4 := Lib.hid (HF1.out.trans f4)
  have HZ4 := Lib.hid (HZ1.out.on f4)
  have HG4 := Lib.hid hg4
  clear hg4 f4
  clear g0 g1 g2 g3 d0 d1 d2 d3 d4 d5 d6 d7 d8 d9
  obtain ⟨z0, z1, z2, z3⟩ := HZ4.out.g4
  obtain ⟨y0, y1, y2, y3⟩ := HZ4.out.f4
  go_wp2
  refine g_ret2 rfl rfl rfl ((((HZ4.out.set_ 0 _).set_ 1 _).set_ 2 _).set_ 3 _) ?_
  exact retSt_box HZ4.out HG4.out HFL.out HF4.out (by omega) rfl
 ·have h0 := app_chk (l := [c]) (fun e => hq0 (HQ.out.trans e))
  have hE : EE = q := by rw [HEE.out, h0.1, HQ.out]
  have hT : TT = zerG := by rw [HTT.out, h0.2]
  have HET := Lib.hid (And.intro hE hT)
  have hq1 : (q == 0) = false := beq_eq_false_iff_ne.2 hq0
  have hq2 : (q != 0) = true := by rw [bne_iff_ne]; exact hq0
  clear hE hT h0 hq0
  obtain ⟨z0, z1, z2, z3⟩ := HZ1.out.g4
  obtain ⟨y0, y1, y2, y3⟩ := HZ1.out.f4
  go_wp2
  refine g_ret2 rfl rfl rfl ((((HZ1.out.set_ 0 _).set_ 1 _).set_ 2 _).set_ 3 _) ?_
  have hb1 : w.heap.size ≤ w.heap.size + 1 + 1 := by omega
  have hE := HET.out.1
  have hT := HET.out.2
  exact ⟨none, none, 0, 0, by rw [hE, hT]; rfl, by rw [hT]; exact zerG_in _, fuwS (fuwS (fuwS (fuwS HF1.out hb1) hb1) hb1) hb1⟩
end Go.Proofs.YtpamdlkagmlahaaGreatDoor
