/-
  M11; M12; M13: texts of one kind in one file; each part says what it holds.
-/
import Derived.Test.YtfbijdoomkgodaaGreatDoorTK05
import Derived.Test.YtfbijdoomkgodaaGreatDoorTM05
import Derived.Test.YtfbijdoomkgodaaGreatDoorShelf
import Derived.Laws.StructEq
import Derived.Test.YtfbijdoomkgodaaGreatDoorTK02
import Derived.Test.YtfbijdoomkgodaaGreatDoorTK01
import Derived.Test.YtfbijdoomkgodaaGreatDoorTK00
import Derived.Laws.IdiomStrings
import Derived.Lib.ItoaLen
import Derived.Lib.Hide
import Derived.Deep.RegionHeld3
import Derived.FnData

/-! GrK; GrG: texts of one kind in one file; each part says what it holds. -/

/-! Slices of entries that a call has made, told by the list of what they hold; slices.SortFunc of one. Nothing that was there turns. -/
namespace Go.Proofs.YtfbijdoomkgodaaGreatDoor
open Go.RowKit

end Go.Proofs.YtfbijdoomkgodaaGreatDoor

/-! Package graph: what is wrong with the nodes of a graph. Nothing that was there turns. -/
namespace Go.Proofs.YtfbijdoomkgodaaGreatDoor
open Go.RowKit

theorem nd_26 {nn : Int} {prev : Option Int} {n : Nd} (h : badP prev n.id = true) : ndV nn prev n = 26 := by unfold ndV; rw [if_pos h]
theorem nd_1 {nn : Int} {prev : Option Int} {n : Nd} (h : badP prev n.id = false) (h1 : n.id < 1 ∨ nn ≤ n.id) : ndV nn prev n = 1 := by
  unfold ndV; rw [h, if_neg (by decide), if_pos h1]
theorem nd_p {nn : Int} {prev : Option Int} {n : Nd} (h : badP prev n.id = false) (h1 : ¬ n.id < 1) (h2 : ¬ nn ≤ n.id) : ndV nn prev n = parV n.ls n.ps := by
  unfold ndV; rw [h, if_neg (by decide), if_neg (by omega)]
theorem prevN_p (ns : List Nd) (i p : Nat) (h : p < ns.length) (e : i = p + 1) : prevN ns i = some ns[p].id := by subst e; exact prevN_s ns p h

/-- A graph in a block of its own. -/
def GB (W : World) (B : Nat) (g : Gr) (an ae : Option Addr) (cn ce : Nat) : Prop := Bk W B #[.slice an g.ns.length cn, .slice ae g.es.length ce, .int .i64 g.nn, .int .i64 g.ne] 25
section
variable {W W' : World} {B : Nat} {g : Gr} {an ae : Option Addr} {cn ce : Nat}
theorem GB.c0 (h : GB W B g an ae cn ce) : W.cell? ⟨B, 0, none⟩ = some (.slice an g.ns.length cn) := h.c 0
theorem GB.c1 (h : GB W B g an ae cn ce) : W.cell? ⟨B, 1, none⟩ = some (.slice ae g.es.length ce) := h.c 1
theorem GB.c2 (h : GB W B g an ae cn ce) : W.cell? ⟨B, 2, none⟩ = some (.int .i64 g.nn) := h.c 2
theorem GB.c3 (h : GB W B g an ae cn ce) : W.cell? ⟨B, 3, none⟩ = some (.int .i64 g.ne) := h.c 3
theorem GB.on (h : GB W B g an ae cn ce) (hf : Fuw W W') : GB W' B g an ae cn ce := Bk.on h hf
theorem GB.new (w : World) (g : Gr) (an ae : Option Addr) (cn ce : Nat) : GB (w.alloc (.cells #[.slice an g.ns.length cn, .slice ae g.es.length ce, .int .i64 g.nn, .int .i64 g.ne] 25)) w.heap.size g an ae cn ce := Bk.new _ _ _
end

set_option maxHeartbeats 3200000 in
set_option maxRecDepth 100000 in
theorem chn_any (g : Gr) (an ae : Option Addr) (cn ce : Nat) (w : World) (hg : GIn w g an ae cn ce) (hn : g.ns.length ≤ 2000) :
    Calls Tryz.prog 45 #[grv g an ae cn ce] w (FwI w (nsV g.nn none g.ns)) := by
  have HG0 := hg
  have hb0 := GB.new w g an ae cn ce
  have f0 := fuwA w (.cells #[.slice an g.ns.length cn, .slice ae g.es.length ce, .int .i64 g.nn, .int .i64 g.ne] 25)
  obtain ⟨R, hR⟩ : ∃ R, R = nsV g.nn none g.ns := ⟨_, rfl⟩
  rw [← hR]
  unfold grv
  obtain ⟨w0, hw0⟩ : ∃ w0, w0 = w.alloc (.cells #[.slice an g.ns.length cn, .slice ae g.es.length ce, .int .i64 g.nn, .int .i64 g.ne] 25) := ⟨_, rfl⟩
  rw [← hw0] at hb0 f0
  have HW0 := Lib.hid hw0
  have HB := Lib.hid hb0
  have F0 := Lib.hid f0
  have HN := Lib.hid (slN_on f0 HG0.n)
  have HS0 := Lib.hid (show R = nsV g.nn (prevN g.ns 0) (g.ns.drop 0) from hR)
  clear hw0 hb0 f0 HG0 hg hR
  go_enter Tryz.func45, Tryz.ntmps45
  go_wp2
  go_loopw [9] (fun iv wr => ∃ i : Nat, iv = .int .i64 i ∧ i ≤ g.ns.length ∧ Hid (R = nsV g.nn (prevN g.ns i) (g.ns.drop i)) ∧ Hid (Fuw w0 wr)) (fun iv _ => g.ns.length - (RowKit.intOf iv).toNat)
  case atStart => exact ⟨0, rfl, Nat.zero_le _, HS0, by rw [HW0.out]; exact Fuw.refl _⟩
  case round =>
    obtain ⟨i, rfl, hi, HQ, hf⟩ := hrel
    by_cases hlt : i < g.ns.length
    · obtain ⟨b, o, hao, h64, c0, ⟨al, cl, c1, hsl⟩, ap, cp, c2, hsp⟩ := (slN_on hf.out HN.out).get hlt
      have HA := Lib.hid (HQ.out.trans (nsV_drop g.nn g.ns i hlt))
      have HB1 := Lib.hid (HB.out.on hf.out)
      have HX := Lib.hid (show i = 0 ∧ badP (prevN g.ns i) g.ns[i].id = false ∨ ∃ (p : Nat) (hp : p < g.ns.length), i = p + 1 ∧ badP (prevN g.ns i) g.ns[i].id = decide (g.ns[i].id ≤ g.ns[p].id) ∧ wr.cell? ⟨b, o + p * 3, none⟩ = some (.int .i64 g.ns[p].id) from by
        rcases Nat.eq_zero_or_pos i with e | e
        · subst e; exact .inl ⟨rfl, rfl⟩
        · refine .inr ⟨i - 1, by omega, by omega, ?_, ?_⟩
          · rw [prevN_p g.ns i (i - 1) (by omega) (by omega)]; rfl
          · obtain ⟨b', o', hao', -, k0, -⟩ := (slN_on hf.out HN.out).get (show i - 1 < g.ns.length by omega)
            rw [hao] at hao'
            cases hao'
            exact k0)
      have HC := Lib.hid (fun w' (hf' : Fuw wr w') => cont_any g.ns[i].ls g.ns[i].ps al ap cl cp w' (slS_on hf' hsl) (slP_on hf' hsp))
      have HP := Lib.hid (fun (h : badP (prevN g.ns i) g.ns[i].id = false) (h1 : ¬ g.ns[i].id < 1) (h2 : ¬ g.nn ≤ g.ns[i].id) => nd_p (nn := g.nn) h h1 h2)
      have H1 := Lib.hid (fun (h : badP (prevN g.ns i) g.ns[i].id = false) (h1 : g.ns[i].id < 1 ∨ g.nn ≤ g.ns[i].id) => nd_1 (nn := g.nn) h h1)
      have H26 := Lib.hid (fun (h : badP (prevN g.ns i) g.ns[i].id = true) => nd_26 (nn := g.nn) h)
      subst hao
      generalize g.ns[i] = n at *
      generalize badP (prevN g.ns i) n.id = bad at *
      generalize ndV g.nn (prevN g.ns i) n = nd at *
      have q0 := HB1.out.c0
      go_upto_region 4 with fail
      obtain ⟨W, hW⟩ : ∃ W, W = wr.alloc (.cells #[.int .i64 n.id, .slice al n.ls.length cl, .slice ap n.ps.length cp] 56) := ⟨_, rfl⟩
      have hfW : Fuw wr W := by rw [hW]; exact fuwA _ _
      have hBn : Bk W wr.heap.size #[.int .i64 n.id, .slice al n.ls.length cl, .slice ap n.ps.length cp] 56 := by rw [hW]; exact Bk.new _ _ _
      rw [← hW]
      clear hW q0 c0 c1 c2
      have q0 := (HB1.out.on hfW).c0
      have q2 := (HB1.out.on hfW).c2
      have d0 : W.cell? ⟨wr.heap.size, 0, none⟩ = some (.int .i64 n.id) := hBn.c 0
      have d1 : W.cell? ⟨wr.heap.size, 1, none⟩ = some (.slice al n.ls.length cl) := hBn.c 1
      have d2 : W.cell? ⟨wr.heap.size, 2, none⟩ = some (.slice ap n.ps.length cp) := hBn.c 2
      rcases HX.out with ⟨hi0, hbad⟩ | ⟨p, hp, hi0, hbad, k0⟩
      · have hd : decide (0 < i) = false := decide_eq_false (by omega)
        have HBD := Lib.hid hbad
        clear hi0 hbad
        go_wp2
        go_quiet (fail)
        clear hd
        have hb' : bad = false := HBD.out
        by_cases h1 : n.id < 1
        · have HZ := Lib.hid (show R = 1 by rw [HA.out, H1.out hb' (.inl h1)]; rfl)
          clear hb'
          go_wp2
          go_ret
          exact ⟨ret_int HZ.out.symm, F0.out.trans (hf.out.trans (hfW.trans (fuw_dr _ _)))⟩
        · by_cases h2 : g.nn ≤ n.id
          · have HZ := Lib.hid (show R = 1 by rw [HA.out, H1.out hb' (.inr h2)]; rfl)
            clear hb'
            go_wp2
            go_ret
            exact ⟨ret_int HZ.out.symm, F0.out.trans (hf.out.trans (hfW.trans (fuw_dr _ _)))⟩
          · have HZ := Lib.hid (HP.out hb' (by omega) (by omega))
            clear hb'
            generalize parV n.ls n.ps = c at *
            go_wp2_with fail
            go_at_call 85; refine (HC.out _ (hfW.trans (fuw_dr _ _))).mono ?_; rintro e1 w1 ⟨rfl, f1⟩
            have HF := Lib.hid (hf.out.trans ((hfW.trans (fuw_dr _ _)).trans f1))
            by_cases hc : c = 0
            · subst hc
              have HY := Lib.hid (show R = nsV g.nn (prevN g.ns (i + 1)) (g.ns.drop (i + 1)) by rw [HA.out, HZ.out, if_pos rfl])
              go_wp2
              go_roundw
              case rel => exact ⟨i + 1, by go_num, by omega, HY, HF⟩
              case measure => simp [RowKit.intOf]; omega
            · have HY := Lib.hid (show R = c by rw [HA.out, HZ.out, if_neg hc])
              have hc' : (c != 0) = true := by rw [bne_iff_ne]; exact hc
              clear hc
              go_wp2
              go_ret
              exact ⟨ret_int HY.out.symm, F0.out.trans HF.out⟩
      · have hd : decide (0 < i) = true := decide_eq_true (by omega)
        have k0' := cellOnw hfW k0
        have k1 : IntKind.i64.wrap ((i : Int) - 1) = (p : Int) := by rw [show (i : Int) - 1 = p by omega]; exact IntWalk.i64_in _ (by omega)
        have k2 : (0 : Int) ≤ (p : Int) := by omega
        have k3 : (p : Int) < (g.ns.length : Int) := by omega
        have HBD := Lib.hid hbad
        clear hi0 k0 hbad
        generalize g.ns[p].id = pid at *
        by_cases hle : n.id ≤ pid
        · have HZ := Lib.hid (show R = 26 by rw [HA.out, H26.out (by rw [HBD.out]; exact decide_eq_true hle)]; rfl)
          have hle' : decide (n.id ≤ pid) = true := decide_eq_true hle
          clear hle
          go_wp2
          go_quiet (fail)
          clear hd k1 hle'
          go_wp2
          go_ret
          exact ⟨ret_int HZ.out.symm, F0.out.trans (hf.out.trans (hfW.trans (fuw_dr _ _)))⟩
        · have HBE := Lib.hid (show bad = false by rw [HBD.out]; exact decide_eq_false hle)
          have hle' : decide (n.id ≤ pid) = false := decide_eq_false hle
          clear hle
          go_wp2
          go_quiet (fail)
          clear hd k1 hle'
          have hb' : bad = false := HBE.out
          by_cases h1 : n.id < 1
          · have HZ := Lib.hid (show R = 1 by rw [HA.out, H1.out hb' (.inl h1)]; rfl)
            clear hb'
            go_wp2
            go_ret
            exact ⟨ret_int HZ.out.symm, F0.out.trans (hf.out.trans (hfW.trans (fuw_dr _ _)))⟩
          · by_cases h2 : g.nn ≤ n.id
            · have HZ := Lib.hid (show R = 1 by rw [HA.out, H1.out hb' (.inr h2)]; rfl)
              clear hb'
              go_wp2
              go_ret
              exact ⟨ret_int HZ.out.symm, F0.out.trans (hf.out.trans (hfW.trans (fuw_dr _ _)))⟩
            · have HZ := Lib.hid (HP.out hb' (by omega) (by omega))
              clear hb'
              generalize parV n.ls n.ps = c at *
              go_wp2_with fail
              go_at_call 85; refine (HC.out _ (hfW.trans (fuw_dr _ _))).mono ?_; rintro e1 w1 ⟨rfl, f1⟩
              have HF := Lib.hid (hf.out.trans ((hfW.trans (fuw_dr _ _)).trans f1))
              by_cases hc : c = 0
              · subst hc
                have HY := Lib.hid (show R = nsV g.nn (prevN g.ns (i + 1)) (g.ns.drop (i + 1)) by rw [HA.out, HZ.out, if_pos rfl])
                go_wp2
                go_roundw
                case rel => exact ⟨i + 1, by go_num, by omega, HY, HF⟩
                case measure => simp [RowKit.intOf]; omega
              · have HY := Lib.hid (show R = c by rw [HA.out, HZ.out, if_neg hc])
                have hc' : (c != 0) = true := by rw [bne_iff_ne]; exact hc
                clear hc
                go_wp2
                go_ret
                exact ⟨ret_int HY.out.symm, F0.out.trans HF.out⟩
    · have HZ := Lib.hid (show R = 0 by rw [HQ.out, List.drop_of_length_le (by omega)]; rfl)
      go_wp2
      go_ret
      exact ⟨ret_int HZ.out.symm, F0.out.trans hf.out⟩
end Go.Proofs.YtfbijdoomkgodaaGreatDoor

/-! GrL; GrN: texts of one kind in one file; each part says what it holds. -/

/-! Package graph: the entries at a node, in order (Steps). Nothing that was there turns. -/
namespace Go.Proofs.YtfbijdoomkgodaaGreatDoor
open Go.RowKit

end Go.Proofs.YtfbijdoomkgodaaGreatDoor

/-! The reference of package graph: the entry of an edge at a node; whether two slices of entries are equal; few. Nothing that was there turns. -/
namespace Go.Proofs.YtfbijdoomkgodaaGreatDoor
open Go.RowKit

theorem bk2 (w : World) (o : Obj) (cs : Array Value) (t : TypeId) : Bk ((w.alloc o).alloc (.cells cs t)) (w.heap.size + 1) cs t := by
  have k := Bk.new (w.alloc o) cs t
  rwa [show (w.alloc o).heap.size = w.heap.size + 1 by simp] at k
/-! Two slices of entries. -/
end Go.Proofs.YtfbijdoomkgodaaGreatDoor

/-! LvF; FrP; NumT; FrX; FzE; FzG: texts of one kind in one file; each part says what it holds. -/

/-! Package value: slices.CompareFunc at orderValid and at Order, given what these answer of the elements: the lists compared. Nothing that was there turns. -/
namespace Go.Proofs.YtfbijdoomkgodaaGreatDoor
open Go.RowKit

/-- Two values boxed. -/
theorem bx2' (w : World) (x y : Vl) (ao bo : Option Addr) (ca cb : Nat) :
    Bx ((w.alloc (.cells #[.int .i64 x.kd, .int .i64 x.nn, .int .i64 x.dd, .string (bs x.ss), .slice ao x.ll.length ca] 28)).alloc (.cells #[.int .i64 y.kd, .int .i64 y.nn, .int .i64 y.dd, .string (bs y.ss), .slice bo y.ll.length cb] 28)) w.heap.size x ao ca ∧
    Bx ((w.alloc (.cells #[.int .i64 x.kd, .int .i64 x.nn, .int .i64 x.dd, .string (bs x.ss), .slice ao x.ll.length ca] 28)).alloc (.cells #[.int .i64 y.kd, .int .i64 y.nn, .int .i64 y.dd, .string (bs y.ss), .slice bo y.ll.length cb] 28)) (w.heap.size + 1) y bo cb ∧
    Fur w ((w.alloc (.cells #[.int .i64 x.kd, .int .i64 x.nn, .int .i64 x.dd, .string (bs x.ss), .slice ao x.ll.length ca] 28)).alloc (.cells #[.int .i64 y.kd, .int .i64 y.nn, .int .i64 y.dd, .string (bs y.ss), .slice bo y.ll.length cb] 28)) := by
  obtain ⟨p0, f0⟩ := bx1 w x ao ca
  have s0 : (w.alloc (.cells #[.int .i64 x.kd, .int .i64 x.nn, .int .i64 x.dd, .string (bs x.ss), .slice ao x.ll.length ca] 28)).heap.size = w.heap.size + 1 := by simp
  generalize w.alloc (.cells #[.int .i64 x.kd, .int .i64 x.nn, .int .i64 x.dd, .string (bs x.ss), .slice ao x.ll.length ca] 28) = w1 at *
  obtain ⟨p1, f1⟩ := bx1 w1 y bo cb
  rw [s0] at p1
  exact ⟨p0.on f1, p1, f0.trans f1⟩
theorem ordL_drop (l l' : List Vl) (i : Nat) (h : i < l.length) (h' : i < l'.length) : ordL (l.drop i) (l'.drop i) = thn (ordV l[i] l'[i]) (ordL (l.drop (i + 1)) (l'.drop (i + 1))) := by
  rw [List.drop_eq_getElem_cons h, List.drop_eq_getElem_cons h']
  simp only [ordL]
theorem ordL_more (l l' : List Vl) (i : Nat) (h : i < l.length) (h' : l'.length ≤ i) : ordL (l.drop i) (l'.drop i) = 1 := by
  rw [List.drop_eq_getElem_cons h, List.drop_of_length_le h']
  simp only [ordL]
theorem ordL_less (l l' : List Vl) (i : Nat) (h : l.length ≤ i) (h' : i < l'.length) : ordL (l.drop i) (l'.drop i) = -1 := by
  rw [List.drop_eq_getElem_cons h', List.drop_of_length_le h]
  simp only [ordL]
theorem ordL_fin (l l' : List Vl) (i : Nat) (h : l.length ≤ i) (h' : l'.length ≤ i) : ordL (l.drop i) (l'.drop i) = 0 := by
  rw [List.drop_of_length_le h', List.drop_of_length_le h]
  simp only [ordL]
/-- What a function (orderValid or Order) answers of two values. -/
def CmpAt (g : Nat) (x y : Vl) : Prop := ∀ (ao bo : Option Addr) (ca cb : Nat) (w : World), Vin x → Vin y → SlV w ao x.ll ca → SlV w bo y.ll cb → Calls Tryz.prog g #[vlv x ao ca, vlv y bo cb] w (RetI w (ordV x y))

set_option maxHeartbeats 3200000 in
set_option maxRecDepth 100000 in
theorem lcf_valid (l l' : List Vl) (hO : ∀ x, x ∈ l → ∀ y, y ∈ l' → CmpAt 101 x y) (ao bo : Option Addr) (ca cb : Nat) (w : World) (hs : SlV w ao l ca) (hs' : SlV w bo l' cb) :
    Calls Tryz.prog 145 #[.slice ao l.length ca, .slice bo l'.length cb, .func (.func 101) #[] #[]] w (RetI w (ordL l l')) := by
  have HO := Lib.hid hO
  have HS := Lib.hid hs
  have HS' := Lib.hid hs'
  have h1 := hs.le
  have h2 := hs.max
  have h3 := hs'.le
  have h4 := hs'.max
  unfold maxLen at h2 h4
  clear hs hs' hO
  go_enter Tryz.func145, Tryz.ntmps145
  go_wp2
  go_loopw [13] (fun iv wr => ∃ i : Nat, iv = .int .i64 i ∧ i ≤ l.length ∧ i ≤ l'.length ∧ Hid (ordL l l' = ordL (l.drop i) (l'.drop i)) ∧ Fur w wr) (fun iv _ => l.length - (RowKit.intOf iv).toNat)
  case atStart => exact ⟨0, rfl, Nat.zero_le _, Nat.zero_le _, rfl, Fur.refl _⟩
  case round =>
    obtain ⟨i, rfl, hi, hi', HN, hf⟩ := hrel
    by_cases hlt : i < l.length
    · obtain ⟨b, o, rfl, hv⟩ := (HS.out.on hf).get hlt
      by_cases hlt' : i < l'.length
      · obtain ⟨b', o', rfl, hv'⟩ := (HS'.out.on hf).get hlt'
        have hA := ordL_drop l l' i hlt hlt'
        have hm := HO.out l[i] (List.getElem_mem hlt) l'[i] (List.getElem_mem hlt')
        obtain ⟨hy, c0, c1, c2, c3, a1, k1, c4, hs2⟩ := VC_of hv
        obtain ⟨hy', d0, d1, d2, d3, a2, k2, d4, hs2'⟩ := VC_of hv'
        obtain ⟨p0, p1, f0⟩ := bx2' wr l[i] l'[i] a1 a2 k1 k2
        have fx := (bx1 wr l[i] a1 k1).2
        replace d0 := cellOn fx d0; replace d1 := cellOn fx d1; replace d2 := cellOn fx d2; replace d3 := cellOn fx d3; replace d4 := cellOn fx d4
        clear fx
        have HC := Lib.hid (fun w' (hf' : Fur wr w') => hm a1 a2 k1 k2 w' hy hy' (hs2.on hf') (hs2'.on hf'))
        have HE := Lib.hid (HN.out.trans hA)
        unfold vlv at HC
        clear hv hv' hs2 hs2' hy hy' hA hm HN
        generalize l[i] = x at *
        generalize l'[i] = y at *
        generalize ordV x y = r at *
        have m0 := p0.c0; have m1 := p0.c1; have m2 := p0.c2; have m3 := p0.c3; have m4 := p0.c4
        go_wp2_with fail
        go_at_call 101; refine (HC.out _ f0).mono ?_; rintro e1 w1 ⟨rfl, f1⟩
        have ff : Fur wr w1 := f0.trans f1
        by_cases hr : r = 0
        · subst hr
          go_wp2
          go_roundw
          case rel => exact ⟨i + 1, by go_num, by omega, by omega, HE.out, hf.trans ff⟩
          case measure => simp [RowKit.intOf]; omega
        · have hr' : (r != 0) = true := by rw [bne_iff_ne]; exact hr
          have HF := Lib.hid (HE.out.trans (thn_n hr _))
          clear hr
          go_wp2
          go_ret
          exact ⟨ret_int HF.out.symm, hf.trans ff⟩
      · have HE := Lib.hid (HN.out.trans (ordL_more l l' i hlt (by omega)))
        obtain ⟨hy, c0, c1, c2, c3, a1, k1, c4, hs2⟩ := VC_of hv
        obtain ⟨p0, f0⟩ := bx1 wr l[i] a1 k1
        have g : (l'.length : Int) ≤ i := by omega
        clear hv hs2 hy
        generalize l[i] = x at *
        go_wp2
        go_ret
        exact ⟨ret_int HE.out.symm, hf.trans f0⟩
    · by_cases hlt' : i < l'.length
      · have HE := Lib.hid (HN.out.trans (ordL_less l l' i (by omega) hlt'))
        have g : (l.length : Int) < l'.length := by omega
        go_wp2
        go_ret
        exact ⟨ret_int HE.out.symm, hf⟩
      · have HE := Lib.hid (HN.out.trans (ordL_fin l l' i (by omega) (by omega)))
        have g : ¬ (l.length : Int) < l'.length := by omega
        go_wp2
        go_ret
        exact ⟨ret_int HE.out.symm, hf⟩

set_option maxHeartbeats 3200000 in
set_option maxRecDepth 100000 in
theorem lcf_order (l l' : List Vl) (hO : ∀ x, x ∈ l → ∀ y, y ∈ l' → CmpAt 59 x y) (ao bo : Option Addr) (ca cb : Nat) (w : World) (hs : SlV w ao l ca) (hs' : SlV w bo l' cb) :
    Calls Tryz.prog 145 #[.slice ao l.length ca, .slice bo l'.length cb, .func (.func 59) #[] #[]] w (RetI w (ordL l l')) := by
  have HO := Lib.hid hO
  have HS := Lib.hid hs
  have HS' := Lib.hid hs'
  have h1 := hs.le
  have h2 := hs.max
  have h3 := hs'.le
  have h4 := hs'.max
  unfold maxLen at h2 h4
  clear hs hs' hO
  go_enter Tryz.func145, Tryz.ntmps145
  go_wp2
  go_loopw [13] (fun iv wr => ∃ i : Nat, iv = .int .i64 i ∧ i ≤ l.length ∧ i ≤ l'.length ∧ Hid (ordL l l' = ordL (l.drop i) (l'.drop i)) ∧ Fur w wr) (fun iv _ => l.length - (RowKit.intOf iv).toNat)
  case atStart => exact ⟨0, rfl, Nat.zero_le _, Nat.zero_le _, rfl, Fur.refl _⟩
  case round =>
    obtain ⟨i, rfl, hi, hi', HN, hf⟩ := hrel
    by_cases hlt : i < l.length
    · obtain ⟨b, o, rfl, hv⟩ := (HS.out.on hf).get hlt
      by_cases hlt' : i < l'.length
      · obtain ⟨b', o', rfl, hv'⟩ := (HS'.out.on hf).get hlt'
        have hA := ordL_drop l l' i hlt hlt'
        have hm := HO.out l[i] (List.getElem_mem hlt) l'[i] (List.getElem_mem hlt')
        obtain ⟨hy, c0, c1, c2, c3, a1, k1, c4, hs2⟩ := VC_of hv
        obtain ⟨hy', d0, d1, d2, d3, a2, k2, d4, hs2'⟩ := VC_of hv'
        obtain ⟨p0, p1, f0⟩ := bx2' wr l[i] l'[i] a1 a2 k1 k2
        have fx := (bx1 wr l[i] a1 k1).2
        replace d0 := cellOn fx d0; replace d1 := cellOn fx d1; replace d2 := cellOn fx d2; replace d3 := cellOn fx d3; replace d4 := cellOn fx d4
        clear fx
        have HC := Lib.hid (fun w' (hf' : Fur wr w') => hm a1 a2 k1 k2 w' hy hy' (hs2.on hf') (hs2'.on hf'))
        have HE := Lib.hid (HN.out.trans hA)
        unfold vlv at HC
        clear hv hv' hs2 hs2' hy hy' hA hm HN
        generalize l[i] = x at *
        generalize l'[i] = y at *
        generalize ordV x y = r at *
        have m0 := p0.c0; have m1 := p0.c1; have m2 := p0.c2; have m3 := p0.c3; have m4 := p0.c4
        go_wp2_with fail
        go_at_call 59; refine (HC.out _ f0).mono ?_; rintro e1 w1 ⟨rfl, f1⟩
        have ff : Fur wr w1 := f0.trans f1
        by_cases hr : r = 0
        · subst hr
          go_wp2
          go_roundw
          case rel => exact ⟨i + 1, by go_num, by omega, by omega, HE.out, hf.trans ff⟩
          case measure => simp [RowKit.intOf]; omega
        · have hr' : (r != 0) = true := by rw [bne_iff_ne]; exact hr
          have HF := Lib.hid (HE.out.trans (thn_n hr _))
          clear hr
          go_wp2
          go_ret
          exact ⟨ret_int HF.out.symm, hf.trans ff⟩
      · have HE := Lib.hid (HN.out.trans (ordL_more l l' i hlt (by omega)))
        obtain ⟨hy, c0, c1, c2, c3, a1, k1, c4, hs2⟩ := VC_of hv
        obtain ⟨p0, f0⟩ := bx1 wr l[i] a1 k1
        have g : (l'.length : Int) ≤ i := by omega
        clear hv hs2 hy
        generalize l[i] = x at *
        go_wp2
        go_ret
        exact ⟨ret_int HE.out.symm, hf.trans f0⟩
    · by_cases hlt' : i < l'.length
      · have HE := Lib.hid (HN.out.trans (ordL_less l l' i (by omega) hlt'))
        have g : (l.length : Int) < l'.length := by omega
        go_wp2
        go_ret
        exact ⟨ret_int HE.out.symm, hf⟩
      · have HE := Lib.hid (HN.out.trans (ordL_fin l l' i (by omega) (by omega)))
        have g : ¬ (l.length : Int) < l'.length := by omega
        go_wp2
        go_ret
        exact ⟨ret_int HE.out.symm, hf⟩
end Go.Proofs.YtfbijdoomkgodaaGreatDoor

/-! The reference of package frac: digits gives the decimal numeral of an int, Text the numeral of a valid fraction, an empty string for any other one. Nothing that was there turns. -/
namespace Go.Proofs.YtfbijdoomkgodaaGreatDoor
open Go.RowKit
open Go.Lib (decDigits)

/-- The numeral of an int. -/
def txt (n : Int) : ByteArray := ⟨(Lib.itoa n).toArray⟩
theorem txt_size (n : Int) (h0 : -9223372036854775808 ≤ n) (h1 : n ≤ 9223372036854775807) : (txt n).size ≤ 21 := by
  have k := Lib.itoa_length_le n h0 h1
  show (Lib.itoa n).toArray.size ≤ 21
  simpa using k
/-- The digits that are not written yet. -/
def pre (u : Nat) : List UInt8 := if u = 0 then [] else decDigits u
/-- The text of a fraction. -/
def fracTxt (n d : Int) : ByteArray := if d = 1 then txt n else txt n ++ ⟨#[47]⟩ ++ txt d
def texV (n d : Int) : ByteArray := if okF n d = true then fracTxt n d else ⟨#[]⟩

end Go.Proofs.YtfbijdoomkgodaaGreatDoor

/-! Package num: Text returns the decimal numeral of every int value. Condition: in the world at the call the table of powers of ten of the library reads as its initialiser lays it (Good). -/
namespace Go.Proofs.YtfbijdoomkgodaaGreatDoor
open Go.RowKit


theorem var_on {P : Program} {w w' : World} {n : String} {cs : Array Value} (h : w.var? P n = some cs) (hb : Fuw w w') : w'.var? P n = some cs := by
  unfold World.var? at *
  cases hg : P.globalNamed n with
  | none => simp [hg] at h
  | some g =>
    simp only [hg, Option.bind_some] at h ⊢
    have hlt : g < w.heap.size := by
      rcases Nat.lt_or_ge g w.heap.size with h' | h'
      · exact h'
      · rw [Array.getElem?_eq_none h'] at h; simp at h
    rw [Below.block hb g hlt]
    exact h
theorem fur_grow0 (w : World) (k : Nat) (os : Array Obj) : Fur w (Go.Sort.grow (w.drewN k) os) :=
  ⟨⟨rfl, rfl, rfl, by show w.heap.size ≤ (w.heap ++ os).size; rw [Array.size_append]; omega, fun j hj => by
    show (w.heap ++ os)[j]? = w.heap[j]?
    rw [Array.getElem?_append_left hj]⟩, Nat.le_add_right _ _⟩
end Go.Proofs.YtfbijdoomkgodaaGreatDoor

/-! Package frac: wide numbers: plus, sign, abs, gcd and over do what they should, for every number of less than 2^100 in size (a divisor from 1 to 10^15). Nothing that was there turns. -/
namespace Go.Proofs.YtfbijdoomkgodaaGreatDoor
open Go.RowKit Go.Shelf

theorem wbox3 (w : World) (a b c d e f : Int) :
    WBox (((w.alloc (.cells #[.int .u64 a, .int .u64 b] 193)).alloc (.cells #[.int .u64 c, .int .u64 d] 193)).alloc (.cells #[.int .u64 e, .int .u64 f] 193)) w.heap.size a b ∧
    WBox (((w.alloc (.cells #[.int .u64 a, .int .u64 b] 193)).alloc (.cells #[.int .u64 c, .int .u64 d] 193)).alloc (.cells #[.int .u64 e, .int .u64 f] 193)) (w.heap.size + 1) c d ∧
    WBox (((w.alloc (.cells #[.int .u64 a, .int .u64 b] 193)).alloc (.cells #[.int .u64 c, .int .u64 d] 193)).alloc (.cells #[.int .u64 e, .int .u64 f] 193)) (w.heap.size + 1 + 1) e f ∧
    Fur w (((w.alloc (.cells #[.int .u64 a, .int .u64 b] 193)).alloc (.cells #[.int .u64 c, .int .u64 d] 193)).alloc (.cells #[.int .u64 e, .int .u64 f] 193)) := by
  obtain ⟨p0, f0⟩ := wbox1 w a b
  have s0 : (w.alloc (.cells #[.int .u64 a, .int .u64 b] 193)).heap.size = w.heap.size + 1 := by simp
  generalize w.alloc (.cells #[.int .u64 a, .int .u64 b] 193) = w1 at *
  obtain ⟨p1, f1⟩ := wbox1 w1 c d
  have s1 : (w1.alloc (.cells #[.int .u64 c, .int .u64 d] 193)).heap.size = w.heap.size + 1 + 1 := by simp [s0]
  rw [s0] at p1
  generalize w1.alloc (.cells #[.int .u64 c, .int .u64 d] 193) = w2 at *
  obtain ⟨p2, f2⟩ := wbox1 w2 e f
  rw [s1] at p2
  exact ⟨(p0.on f1).on f2, p1.on f2, p2, (f0.trans f1).trans f2⟩

theorem plus_hi (A B : Int) : (hiW A + hiW B + (loW A + loW B) / 18446744073709551616) % 18446744073709551616 = hiW (A + B) := by unfold hiW loW; omega
theorem plus_lo (A B : Int) : (loW A + loW B) % 18446744073709551616 = loW (A + B) := by unfold loW; omega
set_option maxHeartbeats 800000 in
theorem plus_any (A B : Int) (w : World) :
    Calls Tryz.prog 195 #[.agg #[.int .u64 (hiW A), .int .u64 (loW A)], .agg #[.int .u64 (hiW B), .int .u64 (loW B)]] w (RetV w (A + B)) := by
  obtain ⟨p0, p1, p2, f0⟩ := wbox3 w (hiW A) (loW A) (hiW B) (loW B) 0 0
  have c00 := p0.c0
  have c01 := p0.c1
  have c10 := p1.c0
  have c11 := p1.c1
  have z20 := p2.f0 0
  have z21 := p2.f0 1
  have HH := Lib.hid (plus_hi A B)
  have HL := Lib.hid (plus_lo A B)
  have a0 := hiW_0 A; have a1 := hiW_1 A; have a2 := loW_0 A; have a3 := loW_1 A
  have b0 := hiW_0 B; have b1 := hiW_1 B; have b2 := loW_0 B; have b3 := loW_1 B
  have k0 : 0 ≤ (loW A + loW B) / 18446744073709551616 := by omega
  have k1 : (loW A + loW B) / 18446744073709551616 ≤ 1 := by omega
  generalize hiW A = ha at *
  generalize loW A = la at *
  generalize hiW B = hb at *
  generalize loW B = lb at *
  go_enter Tryz.func195, Tryz.ntmps195
  go_wp2_with (first | simp only [add64_0 la lb a2 b2 a3 b3] | simp only [add64 ha hb _ a0 b0 k0 k1 a1 b1])
  exact w_ret_at rfl rfl (by simp) (((Fur.refl w).alloc _).alloc _) HH.out HL.out

theorem or_word {A : Int} : bits .or .u64 (hiW A) (loW A) = (((hiW A).toNat ||| (loW A).toNat : Nat) : Int) := by
  have a0 := hiW_0 A; have a1 := hiW_1 A; have a2 := loW_0 A; have a3 := loW_1 A
  have e1 : hiW A = (((hiW A).toNat : Nat) : Int) := by omega
  have e2 : loW A = (((loW A).toNat : Nat) : Int) := by omega
  have k := bits_or_u64_nat (hiW A).toNat (loW A).toNat (by omega) (by omega)
  rw [← e1, ← e2] at k
  exact k
theorem or_nz {A : Int} (h : 0 < A) (l1 : A < 1000000000000000000000000000000000000) : (bits .or .u64 (hiW A) (loW A) == 0) = false := by
  rw [or_word, beq_eq_false_iff_ne]
  intro e
  have e' : (hiW A).toNat ||| (loW A).toNat = 0 := by omega
  rw [Nat.or_eq_zero_iff] at e'
  have a0 := hiW_0 A; have a2 := loW_0 A
  unfold hiW loW at *
  omega
set_option maxHeartbeats 800000 in
theorem sign_any (A : Int) (l0 : -1000000000000000000000000000000000000 < A) (l1 : A < 1000000000000000000000000000000000000) (w : World) :
    Calls Tryz.prog 196 #[.agg #[.int .u64 (hiW A), .int .u64 (loW A)]] w (RetI w A.sign) := by
  obtain ⟨p0, f0⟩ := wbox1 w (hiW A) (loW A)
  have c00 := p0.c0
  have c01 := p0.c1
  have FF := Lib.hid f0
  clear f0 p0
  have a0 := hiW_0 A; have a1 := hiW_1 A; have a2 := loW_0 A; have a3 := loW_1 A
  rcases Int.lt_trichotomy A 0 with h | h | h
  · have k : (hiW A / 9223372036854775808 == 1) = true := by rw [beq_iff_eq]; unfold hiW; omega
    rw [Int.sign_eq_neg_one_of_neg h]
    clear h l0 l1
    generalize hiW A = ha at *
    generalize loW A = la at *
    go_enter Tryz.func196, Tryz.ntmps196
    go_wp2
    go_ret
    exact ⟨rfl, FF.out⟩
  · subst h
    have k : (hiW 0 / 9223372036854775808 == 1) = false := rfl
    have k2 : (bits .or .u64 (hiW 0) (loW 0) == 0) = true := rfl
    rw [show Int.sign 0 = 0 from rfl]
    generalize hiW 0 = ha at *
    generalize loW 0 = la at *
    go_enter Tryz.func196, Tryz.ntmps196
    go_wp2
    go_ret
    exact ⟨rfl, FF.out⟩
  · have k : (hiW A / 9223372036854775808 == 1) = false := by rw [beq_eq_false_iff_ne]; unfold hiW; omega
    have k2 := or_nz h l1
    rw [Int.sign_eq_one_of_pos h]
    clear h l0 l1
    generalize hiW A = ha at *
    generalize loW A = la at *
    go_enter Tryz.func196, Tryz.ntmps196
    go_wp2
    go_ret
    exact ⟨rfl, FF.out⟩

end Go.Proofs.YtfbijdoomkgodaaGreatDoor

/-! Package frac: Add gives the fraction of the sum of two valid fractions and true, or no fraction and false. For every two pairs of ints; nothing that was there turns. -/
namespace Go.Proofs.YtfbijdoomkgodaaGreatDoor
open Go.RowKit

theorem WBox.put {W : World} {B : Nat} {a b : Int} (h : WBox W B a b) (n d : Int) : WBox ((W.setCell ⟨B, 0, none⟩ (.int .u64 n)).setCell ⟨B, 1, none⟩ (.int .u64 d)) B n d := by
  unfold WBox at *
  simp [World.setCell, Array.getElem?_modify, h]
theorem mul_bound {x p : Int} (a : -1000000000000000 ≤ x) (b : x ≤ 1000000000000000) (c : 0 ≤ p) (d : p ≤ 1000000000000000) : (x * p).natAbs ≤ 1000000000000000000000000000000 := by
  rw [Int.natAbs_mul]
  have k := Nat.mul_le_mul (show x.natAbs ≤ 1000000000000000 by omega) (show p.natAbs ≤ 1000000000000000 by omega)
  omega
theorem keep4 {v v' : World} {p0 p1 p2 p3 : Addr} {x0 x1 x2 x3 : Value} (hf : Fur v v') (h0 : v.cell? p0 = some x0) (h1 : v.cell? p1 = some x1) (h2 : v.cell? p2 = some x2) (h3 : v.cell? p3 = some x3) :
    Fur v v' ∧ v'.cell? p0 = some x0 ∧ v'.cell? p1 = some x1 ∧ v'.cell? p2 = some x2 ∧ v'.cell? p3 = some x3 := ⟨hf, cellOn hf h0, cellOn hf h1, cellOn hf h2, cellOn hf h3⟩
end Go.Proofs.YtfbijdoomkgodaaGreatDoor

/-! Package frac: Cmp compares the values of two fractions, where one that is not valid counts as 0. For every two pairs of ints; nothing that was there turns. -/
namespace Go.Proofs.YtfbijdoomkgodaaGreatDoor
open Go.RowKit

theorem cmp_fz (an ad bn bd : Int) : (ozN an ad * ozD bn bd + -ozN bn bd * ozD an ad).sign = cmpQ (fz an ad) (fz bn bd) := by
  obtain ⟨o1, e1⟩ := oz_ok an ad
  obtain ⟨o2, e2⟩ := oz_ok bn bd
  have d1 := o1.d1; have d2 := o2.d1
  obtain ⟨D1, h1⟩ : ∃ D1 : Nat, ozD an ad = (D1 : Int) := ⟨(ozD an ad).toNat, by omega⟩
  obtain ⟨D2, h2⟩ : ∃ D2 : Nat, ozD bn bd = (D2 : Int) := ⟨(ozD bn bd).toNat, by omega⟩
  rw [h1] at o1 e1 ⊢
  rw [h2] at o2 e2 ⊢
  rw [cmp_sign o1 o2, e1, e2]
set_option maxHeartbeats 1600000 in
set_option maxRecDepth 100000 in
theorem nf_cmp (an ad bn bd : Int) (w : World) :
    Calls Tryz.prog 143 #[.agg #[.int .i64 an, .int .i64 ad], .agg #[.int .i64 bn, .int .i64 bd]] w (RetI w (cmpQ (fz an ad) (fz bn bd))) := by
  obtain ⟨p0, p1, f0⟩ := box2 w an ad bn bd
  have hne : ¬ (w.heap.size = w.heap.size + 1) := by omega
  have hne2 : ¬ (w.heap.size + 1 = w.heap.size) := by omega
  rw [← cmp_fz]
  have o1 := (oz_ok an ad).1
  have o2 := (oz_ok bn bd).1
  have E1 := Lib.hid (fun w => orZero_any an ad w)
  have E2 := Lib.hid (fun w => orZero_any bn bd w)
  obtain ⟨W, hW⟩ : ∃ W, ((w.alloc (.cells #[.int .i64 an, .int .i64 ad] 119)).alloc (.cells #[.int .i64 bn, .int .i64 bd] 119)) = W := ⟨_, rfl⟩
  go_enter Tryz.func143, Tryz.ntmps143
  go_upto_region 1 with fail
  rw [hW] at p0 p1 f0
  clear hW
  have ff : Fur W W.drew := Fur.drew (Fur.refl W)
  replace p0 : Box W.drew w.heap.size an ad := p0.on ff
  replace p1 : Box W.drew (w.heap.size + 1) bn bd := p1.on ff
  have k00 := p0.c0
  have k01 := p0.c1
  have k10 := p1.c0
  have k11 := p1.c1
  go_cut [] from 5 to 8 (fun wx => Box wx w.heap.size (ozN an ad) (ozD an ad) ∧ Box wx (w.heap.size + 1) (ozN bn bd) (ozD bn bd) ∧ Fur w wx)
  case first =>
    go_region_with (first
        | (go_at_call 193; refine (orZero_any _ _ _).mono ?_; rintro e w4 ⟨rfl, f4⟩
           replace ff := ff.trans f4
           replace p0 := p0.on f4; replace p1 := p1.on f4
           have k00 := p0.c0; have k01 := p0.c1; have k10 := p1.c0; have k11 := p1.c1; have z00 := p0.f0 0; have z01 := p0.f0 1; have z10 := p1.f0 0; have z11 := p1.f0 1))
    all_goals (go_wp2_with fail; go_meet)
    all_goals (exact ⟨(p0.put _ _).other (by omega) _ _, (p1.other (by omega) _ _).put _ _, fur_put (fur_put (f0.trans ff) (by omega) _ _) (by omega) _ _⟩)
  case rest =>
    clear ff k00 k01 k10 k11 p0 p1 f0 E1 E2
    obtain ⟨p0, p1, f0⟩ := hcut
    generalize ozN an ad = N1 at *
    generalize ozD an ad = D1 at *
    generalize ozN bn bd = N2 at *
    generalize ozD bn bd = D2 at *
    have a1 := o1.d1; have a2 := o1.d2; have a3 := o1.n1; have a4 := o1.n2
    have b1 := o2.d1; have b2 := o2.d2; have b3 := o2.n1; have b4 := o2.n2
    have t1 := mul_bound a3 a4 (show 0 ≤ D2 by omega) b2
    have t2 := mul_bound (x := -N2) (by omega) (by omega) (show 0 ≤ D1 by omega) a2
    have l0 : -1000000000000000000000000000000000000 < N1 * D2 + -N2 * D1 := by omega
    have l1 : N1 * D2 + -N2 * D1 < 1000000000000000000000000000000000000 := by omega
    have L := Lib.hid (And.intro l0 l1)
    have wN : IntKind.i64.wrap (-N2) = -N2 := IntWalk.i64_in (-N2) (by omega)
    have wN' : wrap64 (-N2) = -N2 := IntWalk.wrap64_in (-N2) (by omega)
    clear t1 t2 o1 o2 l0 l1
    have c00 := p0.c0
    have c01 := p0.c1
    have c10 := p1.c0
    have c11 := p1.c1
    have ff : Fur wc wc.drew := Fur.drew (Fur.refl wc)
    go_upto_region 2 with fail
    go_region_held3 (fun w' => Fur wc w' ∧ w'.cell? ⟨w.heap.size, 0, none⟩ = some (.int .i64 N1) ∧ w'.cell? ⟨w.heap.size, 1, none⟩ = some (.int .i64 D1) ∧ w'.cell? ⟨w.heap.size + 1, 0, none⟩ = some (.int .i64 N2) ∧ w'.cell? ⟨w.heap.size + 1, 1, none⟩ = some (.int .i64 D2))
      (first
        | exact keep4 ff c00 c01 c10 c11)
      (first
        | (go_at_call 194; refine (product_any _ _ ?_ ?_ ?_ ?_ _).mono ?_; omega; omega; omega; omega; rintro e w4 ⟨rfl, f4⟩; replace ff := ff.trans f4)
        | (go_at_call 195; refine (plus_any _ _ _).mono ?_; rintro e w5 ⟨rfl, f5⟩; replace ff := ff.trans f5)
        | (go_at_call 196; refine (sign_any _ L.out.1 L.out.2 _).mono ?_; rintro e w6 ⟨rfl, f6⟩; replace ff := ff.trans f6))
    go_wp2
    go_ret
    exact ⟨rfl, f0.trans ff⟩
end Go.Proofs.YtfbijdoomkgodaaGreatDoor
