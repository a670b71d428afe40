/-
  M11; M12: texts of one kind in one file; each part says what it holds.
-/
import Derived.Test.YtpamdlkagmlahaaGreatDoorK05
import Derived.Test.YtpamdlkagmlahaaGreatDoorM05
import Derived.Test.YtpamdlkagmlahaaGreatDoorShelf
import Derived.Laws.StructEq

namespace Go.Proofs.YtpamdlkagmlahaaGreatDoor
open Go.RowKit
def aE (id : Int) (x : Int × Int) : List Value := [.int .i64 id, .int .i64 x.1, .int .i64 x.2]
def aC (id : Int) (L : List (Int × Int)) : List Value := L.flatMap (aE id)
theorem aC_len (id : Int) : ∀ L : List (Int × Int), (aC id L).length = L.length * 3
 | [] => rfl
 | x :: r => by
  show (aE id x ++ aC id r).length = _
  rw [List.length_append, aC_len id r, List.length_cons]
  show 3 + _ = _
  omega
theorem aC_app (id : Int) (a b : List (Int × Int)) : aC id (a ++ b) = aC id a ++ aC id b := List.flatMap_append
theorem aC_get (id : Int) : ∀ (L : List (Int × Int)) (i c : Nat), c < 3 → (h : i < L.length) → (aC id L)[i * 3 + c]? = (aE id L[i])[c]?
 | x :: r, 0, c, hc, _ => by
  show (aE id x ++ aC id r)[0 * 3 + c]? = _
  rw [Nat.zero_mul, Nat.zero_add, List.getElem?_append_left (show c < (aE id x).length from hc)]; rfl
 | x :: r, i + 1, c, hc, h => by
  show (aE id x ++ aC id r)[(i + 1) * 3 + c]? = _
  have e3 : (aE id x).length = 3 := rfl
  rw [List.getElem?_append_right (by rw [e3]; omega), e3, show (i + 1) * 3 + c - 3 = i * 3 + c by omega, aC_get id r i c hc (by simpa using h)]
  rfl
end Go.Proofs.YtpamdlkagmlahaaGreatDoor
namespace Go.Proofs.YtpamdlkagmlahaaGreatDoor
open Go.RowKit
theorem nd_26 {nn : Int} {prev : Option Int} {n : Nd} (h : badP prev n.id = true) : ndV nn prev n = 26 := by unfold ndV; rw [if_pos h]
theorem nd_1 {nn : Int} {prev : Option Int} {n : Nd} (h : badP prev n.id = false) (h1 : n.id < 1 ∨ nn ≤ n.id) : ndV nn prev n = 1 := by
 unfold ndV; rw [h, if_neg (by decide), if_pos h1]
theorem nd_p {nn : Int} {prev : Option Int} {n : Nd} (h : badP prev n.id = false) (h1 : ¬ n.id < 1) (h2 : ¬ nn ≤ n.id) : ndV nn prev n = parV n.ls n.ps := by
 unfold ndV; rw [h, if_neg (by decide), if_neg (by omega)]
theorem prevN_p (ns : List Nd) (i p : Nat) (h : p < ns.length) (e : i = p + 1) : prevN ns i = some ns[p].id := by subst e; exact prevN_s ns p h
def GB (W : World) (B : Nat) (g : Gr) (an ae : Option Addr) (cn ce : Nat) : Prop := Bk W B #[.slice an g.ns.length cn, .slice ae g.es.length ce, .int .i64 g.nn, .int .i64 g.ne] 25
section
variable {W W' : World} {B : Nat} {g : Gr} {an ae : Option Addr} {cn ce : Nat}
theorem GB.c0 (h : GB W B g an ae cn ce) : W.cell? ⟨B, 0, none⟩ = some (.slice an g.ns.length cn) := h.c 0
theorem GB.c1 (h : GB W B g an ae cn ce) : W.cell? ⟨B, 1, none⟩ = some (.slice ae g.es.length ce) := h.c 1
theorem GB.c2 (h : GB W B g an ae cn ce) : W.cell? ⟨B, 2, none⟩ = some (.int .i64 g.nn) := h.c 2
theorem GB.c3 (h : GB W B g an ae cn ce) : W.cell? ⟨B, 3, none⟩ = some (.int .i64 g.ne) := h.c 3
theorem GB.on (h : GB W B g an ae cn ce) (hf : Fuw W W') : GB W' B g an ae cn ce := Bk.on h hf
theorem GB.new (w : World) (g : Gr) (an ae : Option Addr) (cn ce : Nat) : GB (w.alloc (.cells #[.slice an g.ns.length cn, .slice ae g.es.length ce, .int .i64 g.nn, .int .i64 g.ne] 25)) w.heap.size g an ae cn ce := Bk.new _ _ _
end
set_option maxHeartbeats 3200000 in
set_option maxRecDepth 100000 in
theorem chn_any (g : Gr) (an ae : Option Addr) (cn ce : Nat) (w : World) (hg : GIn w g an ae cn ce) (hn : g.ns.length ≤ 2000) :
  Calls Tryz.prog 88 #[grv g an ae cn ce] w (FwI w (nsV g.nn none g.ns)) := by
 have HG0 := hg
 have hb0 := GB.new w g an ae cn ce
 have f0 := fuwA w (.cells #[.slice an g.ns.length cn, .slice ae g.es.length ce, .int .i64 g.nn, .int .i64 g.ne] 25)
 obtain ⟨R, hR⟩ : ∃ R, R = nsV g.nn none g.ns := ⟨_, rfl⟩
 rw [← hR]
 unfold grv
 obtain ⟨w0, hw0⟩ : ∃ w0, w0 = w.alloc (.cells #[.slice an g.ns.length cn, .slice ae g.es.length ce, .int .i64 g.nn, .int .i64 g.ne] 25) := ⟨_, rfl⟩
 rw [← hw0] at hb0 f0
 have HW0 := Lib.hid hw0
 have HB := Lib.hid hb0
 have F0 := Lib.hid f0
 have HN := Lib.hid (slN_on f0 HG0.n)
 have HS0 := Lib.hid (show R = nsV g.nn (prevN g.ns 0) (g.ns.drop 0) from hR)
 clear hw0 hb0 f0 HG0 hg hR
 go_enter Tryz.func88, Tryz.ntmps88
 go_wp2
 go_loopw [9] (fun iv wr => ∃ i : Nat, iv = .int .i64 i ∧ i ≤ g.ns.length ∧ Hid (R = nsV g.nn (prevN g.ns i) (g.ns.drop i)) ∧ Hid (Fuw w0 wr)) (fun iv _ => g.ns.length - (RowKit.intOf iv).toNat)
 case atStart => exact ⟨0, rfl, Nat.zero_le _, HS0, by rw [HW0.out]; exact Fuw.refl _⟩
 case round =>
  obtain ⟨i, rfl, hi, HQ, hf⟩ := hrel
  by_cases hlt : i < g.ns.length
  ·obtain ⟨b, o, hao, h64, c0, ⟨al, cl, c1, hsl⟩, ap, cp, c2, hsp⟩ := (slN_on hf.out HN.out).get hlt
   have HA := Lib.hid (HQ.out.trans (nsV_drop g.nn g.ns i hlt))
   have HB1 := Lib.hid (HB.out.on hf.out)
   have HX := Lib.hid (show i = 0 ∧ badP (prevN g.ns i) g.ns[i].id = false ∨ ∃ (p : Nat) (hp : p < g.ns.length), i = p + 1 ∧ badP (prevN g.ns i) g.ns[i].id = decide (g.ns[i].id ≤ g.ns[p].id) ∧ wr.cell? ⟨b, o + p * 3, none⟩ = some (.int .i64 g.ns[p].id) from by
    rcases Nat.eq_zero_or_pos i with e | e
    ·subst e; exact .inl ⟨rfl, rfl⟩
    ·refine .inr ⟨i - 1, by omega, by omega, ?_, ?_⟩
     ·rw [prevN_p g.ns i (i - 1) (by omega) (by omega)]; rfl
     ·obtain ⟨b', o', hao', -, k0, -⟩ := (slN_on hf.out HN.out).get (show i - 1 < g.ns.length by omega)
      rw [hao] at hao'
      cases hao'
      exact k0)
   have HC := Lib.hid (fun w' (hf' : Fuw wr w') => cont_any g.ns[i].ls g.ns[i].ps al ap cl cp w' (slS_on hf' hsl) (slP_on hf' hsp))
   have HP := Lib.hid (fun (h : badP (prevN g.ns i) g.ns[i].id = false) (h1 : ¬ g.ns[i].id < 1) (h2 : ¬ g.nn ≤ g.ns[i].id) => nd_p (nn := g.nn) h h1 h2)
   have H1 := Lib.hid (fun (h : badP (prevN g.ns i) g.ns[i].id = false) (h1 : g.ns[i].id < 1 ∨ g.nn ≤ g.ns[i].id) => nd_1 (nn := g.nn) h h1)
   have H26 := Lib.hid (fun (h : badP (prevN g.ns i) g.ns[i].id = true) => nd_26 (nn := g.nn) h)
   subst hao
   generalize g.ns[i] = n at *
   generalize badP (prevN g.ns i) n.id = bad at *
   generalize ndV g.nn (prevN g.ns i) n = nd at *
   have q0 := HB1.out.c0
   go_upto_region 4 with fail
   obtain ⟨W, hW⟩ : ∃ W, W = wr.alloc (.cells #[.int .i64 n.id, .slice al n.ls.length cl, .slice ap n.ps.length cp] 51) := ⟨_, rfl⟩
   have hfW : Fuw wr W := by rw [hW]; exact fuwA _ _
   have hBn : Bk W wr.heap.size #[.int .i64 n.id, .slice al n.ls.length cl, .slice ap n.ps.length cp] 51 := by rw [hW]; exact Bk.new _ _ _
   rw [← hW]
   clear hW q0 c0 c1 c2
   have q0 := (HB1.out.on hfW).c0
   have q2 := (HB1.out.on hfW).c2
   have d0 : W.cell? ⟨wr.heap.size, 0, none⟩ = some (.int .i64 n.id) := hBn.c 0
   have d1 : W.cell? ⟨wr.heap.size, 1, none⟩ = some (.slice al n.ls.length cl) := hBn.c 1
   have d2 : W.cell? ⟨wr.heap.size, 2, none⟩ = some (.slice ap n.ps.length cp) := hBn.c 2
   rcases HX.out with ⟨hi0, hbad⟩ | ⟨p, hp, hi0, hbad, k0⟩
   ·have hd : decide (0 < i) = false := decide_eq_false (by omega)
    have HBD := Lib.hid hbad
    clear hi0 hbad
    go_wp2
    go_quiet (fail)
    clear hd
    have hb' : bad = false := HBD.out
    by_cases h1 : n.id < 1
    ·have HZ := Lib.hid (show R = 1 by rw [HA.out, H1.out hb' (.inl h1)]; rfl)
     clear hb'
     go_wp2
     go_ret
     exact ⟨ret_int HZ.out.symm, F0.out.trans (hf.out.trans (hfW.trans (fuw_dr _ _)))⟩
    ·by_cases h2 : g.nn ≤ n.id
     ·have HZ := Lib.hid (show R = 1 by rw [HA.out, H1.out hb' (.inr h2)]; rfl)
      clear hb'
      go_wp2
      go_ret
      exact ⟨ret_int HZ.out.symm, F0.out.trans (hf.out.trans (hfW.trans (fuw_dr _ _)))⟩
     ·have HZ := Lib.hid (HP.out hb' (by omega) (by omega))
      clear hb'
      generalize parV n.ls n.ps = c at *
      go_wp2_with fail
      go_at_call 125; refine (HC.out _ (hfW.trans (fuw_dr _ _))).mono ?_; rintro e1 w1 ⟨rfl, f1⟩
      have HF := Lib.hid (hf.out.trans ((hfW.trans (fuw_dr _ _)).trans f1))
      by_cases hc : c = 0
      ·subst hc
       have HY := Lib.hid (show R = nsV g.nn (prevN g.ns (i + 1)) (g.ns.drop (i + 1)) by rw [HA.out, HZ.out, if_pos rfl])
       go_wp2
       go_roundw
       case rel => exact ⟨i + 1, by go_num, by omega, HY, HF⟩
       case measure => simp [RowKit.intOf]; omega
      ·have HY := Lib.hid (show R = c by rw [HA.out, HZ.out, if_neg hc])
       have hc' : (c != 0) = true := by rw [bne_iff_ne]; exact hc
       clear hc
       go_wp2
       go_ret
       exact ⟨ret_int HY.out.symm, F0.out.trans HF.out⟩
   ·have hd : decide (0 < i) = true := decide_eq_true (by omega)
    have k0' := cellOnw hfW k0
    have k1 : IntKind.i64.wrap ((i : Int) - 1) = (p : Int) := by rw [show (i : Int) - 1 = p by omega]; exact IntWalk.i64_in _ (by omega)
    have k2 : (0 : Int) ≤ (p : Int) := by omega
    have k3 : (p : Int) < (g.ns.length : Int) := by omega
    have HBD := Lib.hid hbad
    clear hi0 k0 hbad
    generalize g.ns[p].id = pid at *
    by_cases hle : n.id ≤ pid
    ·have HZ := Lib.hid (show R = 26 by rw [HA.out, H26.out (by rw [HBD.out]; exact decide_eq_true hle)]; rfl)
     have hle' : decide (n.id ≤ pid) = true := decide_eq_true hle
     clear hle
     go_wp2
     go_quiet (fail)
     clear hd k1 hle'
     go_wp2
     go_ret
     exact ⟨ret_int HZ.out.symm, F0.out.trans (hf.out.trans (hfW.trans (fuw_dr _ _)))⟩
    ·have HBE := Lib.hid (show bad = false by rw [HBD.out]; exact decide_eq_false hle)
     have hle' : decide (n.id ≤ pid) = false := decide_eq_false hle
     clear hle
     go_wp2
     go_quiet (fail)
     clear hd k1 hle'
     have hb' : bad = false := HBE.out
     by_cases h1 : n.id < 1
     ·have HZ := Lib.hid (show R = 1 by rw [HA.out, H1.out hb' (.inl h1)]; rfl)
      clear hb'
      go_wp2
      go_ret
      exact ⟨ret_int HZ.out.symm, F0.out.trans (hf.out.trans (hfW.trans (fuw_dr _ _)))⟩
     ·by_cases h2 : g.nn ≤ n.id
      ·have HZ := Lib.hid (show R = 1 by rw [HA.out, H1.out hb' (.inr h2)]; rfl)
       clear hb'
       go_wp2
       go_ret
       exact ⟨ret_int HZ.out.symm, F0.out.trans (hf.out.trans (hfW.trans (fuw_dr _ _)))⟩
      ·have HZ := Lib.hid (HP.out hb' (by omega) (by omega))
       clear hb'
       generalize parV n.ls n.ps = c at *
       go_wp2_with fail
       go_at_call 125; refine (HC.out _ (hfW.trans (fuw_dr _ _))).mono ?_; rintro e1 w1 ⟨rfl, f1⟩
       have HF := Lib.hid (hf.out.trans ((hfW.trans (fuw_dr _ _)).trans f1))
       by_cases hc : c = 0
       ·subst hc
        have HY := Lib.hid (show R = nsV g.nn (prevN g.ns (i + 1)) (g.ns.drop (i + 1)) by rw [HA.out, HZ.out, if_pos rfl])
        go_wp2
        go_roundw
        case rel => exact ⟨i + 1, by go_num, by omega, HY, HF⟩
        case measure => simp [RowKit.intOf]; omega
       ·have HY := Lib.hid (show R = c by rw [HA.out, HZ.out, if_neg hc])
        have hc' : (c != 0) = true := by rw [bne_iff_ne]; exact hc
        clear hc
        go_wp2
        go_ret
        exact ⟨ret_int HY.out.symm, F0.out.trans HF.out⟩
  ·have HZ := Lib.hid (show R = 0 by rw [HQ.out, List.drop_of_length_le (by omega)]; rfl)
   go_wp2
   go_ret
   exact ⟨ret_int HZ.out.symm, F0.out.trans hf.out⟩
end Go.Proofs.YtpamdlkagmlahaaGreatDoor

namespace Go.Proofs.YtpamdlkagmlahaaGreatDoor
open Go.RowKit
theorem infoJ : (Tryz.prog.info? 189).map (fun i => (i.zero, i.size, i.bytes)) = some (some (.agg #[.int .i64 0, .int .i64 0, .int .i64 0]), 3, 24) := by kernel_rfl
theorem stp_drop (es : List Ed) (id : Int) (types : List (List UInt8)) (dir : Int) (i : Nat) (h : i < es.length) :
  stpV (es.drop i) id types dir = (if (hasT es[i].ty types && (acrV es[i] id dir).isSome) = true then [(acrN es[i] id dir, es[i].id)] else []) ++ stpV (es.drop (i + 1)) id types dir := by
 unfold stpV
 rw [List.drop_eq_getElem_cons h, List.filterMap_cons]
 unfold acrN
 cases hasT es[i].ty types
 ·rfl
 ·cases acrV es[i] id dir <;> rfl
theorem stp_end (es : List Ed) (id : Int) (types : List (List UInt8)) (dir : Int) (i : Nat) (h : es.length ≤ i) : stpV (es.drop i) id types dir = [] := by
 unfold stpV
 rw [List.drop_of_length_le h]; rfl
def JC (w : World) (x : Int × Int × Int) (b o : Nat) : Prop := w.cell? ⟨b, o, none⟩ = some (.int .i64 x.1) ∧ w.cell? ⟨b, o + 1, none⟩ = some (.int .i64 x.2.1) ∧ w.cell? ⟨b, o + 2, none⟩ = some (.int .i64 x.2.2)
abbrev SlJ := Sl 3 JC
def jL (id : Int) (L : List (Int × Int)) : List (Int × Int × Int) := L.map fun x => (id, x.1, x.2)
theorem jL_len (id : Int) (L : List (Int × Int)) : (jL id L).length = L.length := List.length_map ..
theorem slJ_own {w : World} {base e : Nat} {v : Value} {n : Nat} {id : Int} {L : List (Int × Int)} (h : w.ownsRow base e 3 v n (aC id L)) : ∃ ao cap, v = .slice ao (jL id L).length cap ∧ n = L.length ∧ SlJ w ao (jL id L) cap := by
 have hl := h.1
 rw [aC_len] at hl
 have hl' : n = L.length := by omega
 subst hl'
 rcases h.2 with ⟨rfl, h0⟩ | ⟨g, cap, cur, rfl, hb, hh, h1, h2, h3, h4⟩
 ·have e := List.length_eq_zero_iff.1 h0
  subst e
  exact ⟨none, 0, rfl, rfl, Sl.empty _⟩
 ·refine ⟨_, cap, by rw [jL_len], rfl, by rw [jL_len]; exact h1, h2, (fun k => by cases k), fun _ => ⟨g, 0, rfl, fun j hj => ?_⟩⟩
  rw [jL_len] at hj
  have hx : (jL id L)[j]'(by rw [jL_len]; exact hj) = (id, L[j].1, L[j].2) := by simp [jL]
  have k : ∀ c, c < 3 → w.cell? ⟨g, 0 + j * 3 + c, none⟩ = (aE id L[j])[c]? := fun c hc => by
   rw [Nat.zero_add, h.cellAt (j * 3 + c) (by omega), aC_get id L j c hc hj]
  unfold JC
  rw [hx]
  exact ⟨k 0 (by decide), k 1 (by decide), k 2 (by decide)⟩
def RetJ (w : World) (id : Int) (L : List (Int × Int)) (e : Ending) (w' : World) : Prop := ∃ ao cap, e = .returned (.slice ao (jL id L).length cap) ∧ SlJ w' ao (jL id L) cap ∧ Fuw w w'
end Go.Proofs.YtpamdlkagmlahaaGreatDoor
namespace Go.Proofs.YtpamdlkagmlahaaGreatDoor
open Go.RowKit
theorem load_adj (w : World) (b : Nat) (x y z : Int) (h0 : w.cell? ⟨b, 0, none⟩ = some (.int .i64 x)) (h1 : w.cell? ⟨b, 1, none⟩ = some (.int .i64 y)) (h2 : w.cell? ⟨b, 2, none⟩ = some (.int .i64 z)) :
  (loadVar 189 ⟨b, 0, none⟩).run Tryz.prog w = .ok (.agg #[.int .i64 x, .int .i64 y, .int .i64 z]) w := by
 go_simp
theorem j_ret {fn : Func} {p u : Tmp} (hres : fn.results = #[.cell p 189, .tmp u]) {tmps : Array Value} {B : Nat} {x y z : Int} {c : Bool} {w : World} {t : TypeId} {Q : Ending → World → Prop}
  (hp : tmps.getD p undef = .pointer (some ⟨B, 0, none⟩)) (hu : tmps.getD u undef = .bool c) (h : Bk w B #[.int .i64 x, .int .i64 y, .int .i64 z] t)
  (hQ : Q (.returned (.tuple #[.agg #[.int .i64 x, .int .i64 y, .int .i64 z], .bool c])) w) : bodyPost Tryz.prog fn Q Exit.ret { tmps := tmps, defers := [] } w := by
 refine bodyPost_ret (v := .tuple #[.agg #[.int .i64 x, .int .i64 y, .int .i64 z], .bool c]) ?_ rfl hQ
 rw [results_cell_tmp hres, hp, hu]
 have e : (asAddr (.pointer (some ⟨B, 0, none⟩))).run Tryz.prog w = .ok ⟨B, 0, none⟩ w := by go_simp
 rw [e]
 simp only [Result.andThen]
 rw [load_adj w B x y z (h.c 0) (h.c 1) (h.c 2)]
theorem bk2 (w : World) (o : Obj) (cs : Array Value) (t : TypeId) : Bk ((w.alloc o).alloc (.cells cs t)) (w.heap.size + 1) cs t := by
 have k := Bk.new (w.alloc o) cs t
 rwa [show (w.alloc o).heap.size = w.heap.size + 1 by simp] at k
theorem ret_j {u b b' v : Int} {c : Bool} (h : b = b') : Ending.returned (.tuple #[.agg #[.int .i64 u, .int .i64 b, .int .i64 v], .bool c]) = .returned (.tuple #[.agg #[.int .i64 u, .int .i64 b', .int .i64 v], .bool c]) := by rw [h]
end Go.Proofs.YtpamdlkagmlahaaGreatDoor
