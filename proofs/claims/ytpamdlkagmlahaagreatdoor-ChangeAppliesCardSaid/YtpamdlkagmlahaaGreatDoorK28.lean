/-
  M29; CpB; CpC; CkB: texts of one kind in one file; each part says what it holds.
-/
import Derived.Test.YtpamdlkagmlahaaGreatDoorK06
import Derived.Test.YtpamdlkagmlahaaGreatDoorM18
import Derived.Test.YtpamdlkagmlahaaGreatDoorK27
import Derived.Test.YtpamdlkagmlahaaGreatDoorK14
import Derived.Test.YtpamdlkagmlahaaGreatDoorM05
import Derived.Test.YtpamdlkagmlahaaGreatDoorK18
import Derived.Test.YtpamdlkagmlahaaGreatDoorK15
import Derived.Lib.SliceRun

namespace Go.Proofs.YtpamdlkagmlahaaGreatDoor
open Go.RowKit
def WQ (m : Nat) : Prop := ∀ (x : Vl) (ao : Option Addr) (cap : Nat) (a : Int) (w : World), -1000000000000000000 ≤ a → a ≤ 1000000 → Vin x → SlV w ao x.ll cap → Calls Tryz.prog 43 #[vlv x ao cap, .int .i64 a, .int .i64 (m : Int)] w (FwI w (weiV m x a))
theorem wq_0 : WQ 0 := fun x ao cap a w h0 h1 hi hs => by
 have f0 := fuwA w (.cells #[.int .i64 x.kd, .int .i64 x.nn, .int .i64 x.dd, .string (bs x.ss), .slice ao x.ll.length cap] 28)
 have hl := hi.s
 unfold maxLen at hl
 have hz : (bs x.ss).size = x.ss.length := by simp [bs, ByteArray.size]
 show Calls _ _ _ _ (FwI w (-1))
 clear hs hi
 unfold vlv at *
 go_enter Tryz.func43, Tryz.ntmps43
 go_wp2
 go_ret
 exact ⟨rfl, f0⟩
set_option maxHeartbeats 3200000 in
set_option maxRecDepth 100000 in
theorem wq_s (m : Nat) (hm : m < 1000) (hw : WQ m) : WQ (m + 1) := fun x ao cap a w h0 h1 hi hs => by
 have p0 := Bk.new w #[.int .i64 x.kd, .int .i64 x.nn, .int .i64 x.dd, .string (bs x.ss), .slice ao x.ll.length cap] 28
 have f0 := fuwA w (.cells #[.int .i64 x.kd, .int .i64 x.nn, .int .i64 x.dd, .string (bs x.ss), .slice ao x.ll.length cap] 28)
 have hl := hi.s
 unfold maxLen at hl
 have hz : (bs x.ss).size = x.ss.length := by simp [bs, ByteArray.size]
 have hll := hs.le
 have hlm := hs.max
 unfold maxLen at hlm
 have HS := Lib.hid (hs.onw f0)
 have HW := Lib.hid hw
 have e := Lib.hid (weiV_s m x a)
 have HP := Lib.hid p0
 clear hs hi hw p0
 generalize weiV (m + 1) x a = W at *
 rw [show ((m + 1 : Nat) : Int) = (m : Int) + 1 by omega]
 unfold vlv
 obtain ⟨w0, hw0⟩ : ∃ w0, w0 = w.alloc (.cells #[.int .i64 x.kd, .int .i64 x.nn, .int .i64 x.dd, .string (bs x.ss), .slice ao x.ll.length cap] 28) := ⟨_, rfl⟩
 rw [← hw0] at HP f0 HS
 have HW0 := Lib.hid hw0
 have F0 := Lib.hid f0
 clear hw0 f0
 go_enter Tryz.func43, Tryz.ntmps43
 go_wp2
 go_loopw [1, 7] (fun lv iv wr => ∃ (c : Int) (i : Nat), lv = .int .i64 c ∧ iv = .int .i64 i ∧ i ≤ x.ll.length ∧ c ≤ a ∧ Hid (W = weiL m (x.ll.drop i) c) ∧ Hid (Fuw w0 wr)) (fun _ iv _ => x.ll.length - (RowKit.intOf iv).toNat)
 case atStart =>
  refine ⟨a - 1 - ((x.ss.length / 50 : Nat) : Int), 0, congrArg (Value.int .i64) ?_, rfl, Nat.zero_le _, by omega, e.out, ?_⟩
  ·omega
  ·rw [HW0.out]; exact Fuw.refl _
 case round =>
  obtain ⟨c, i, rfl, rfl, hi, hc, HN, hf⟩ := hrel
  have c4 : wr.cell? ⟨w.heap.size, 4, none⟩ = some (.slice ao x.ll.length cap) := (HP.out.on hf.out).c 4
  by_cases hc0 : 0 ≤ c
  ·by_cases hlt : i < x.ll.length
   ·obtain ⟨b, o, rfl, hv⟩ := (HS.out.onw hf.out).get hlt
    have hA := weiL_drop m x.ll i hlt hc0
    obtain ⟨hy, d0, d1, d2, d3, ao', cap', d4, hs2⟩ := VC_of hv
    have HC := Lib.hid (HW.out x.ll[i] ao' cap' c wr (by omega) (by omega) hy hs2)
    have hlw := weiV_lt m x.ll[i] hc0
    have HE := Lib.hid (HN.out.trans hA)
    unfold vlv at HC
    clear hv hs2 hy hA
    generalize x.ll[i] = y at *
    generalize weiV m y c = r at *
    go_wp2_with fail
    go_at_call 43
    refine (HC.out).mono ?_; rintro e1 w1 ⟨rfl, f1⟩
    have HF := Lib.hid (hf.out.trans f1)
    go_wp2
    go_roundw
    case rel => exact ⟨r, i + 1, rfl, by go_num, by omega, by omega, HE, HF⟩
    case measure => simp [RowKit.intOf]; omega
   ·have HE := Lib.hid (show W = c by rw [HN.out, List.drop_of_length_le (by omega)]; rfl)
    go_wp2
    go_ret
    exact ⟨ret_int HE.out.symm, F0.out.trans hf.out⟩
  ·have HE := Lib.hid (show W = c by rw [HN.out, weiL_neg _ _ (by omega)])
   by_cases hlt : i < x.ll.length
   ·go_wp2
    go_ret
    exact ⟨ret_int HE.out.symm, F0.out.trans hf.out⟩
   ·go_wp2
    go_ret
    exact ⟨ret_int HE.out.symm, F0.out.trans hf.out⟩
theorem wq_any : ∀ m, m < 1000 → WQ m
 | 0, _ => wq_0
 | m + 1, h => wq_s m (by omega) (wq_any m (by omega))
def wgpV : List Pp → Int → Int
 | [], a => a
 | p :: r, a => if a < 0 then a else wgpV r (weiV 12 p.v (a - ((p.k.length / 50 : Nat) : Int)))
theorem wgp_neg {a : Int} (h : a < 0) : ∀ l : List Pp, wgpV l a = a
 | [] => rfl
 | p :: r => by unfold wgpV; rw [if_pos h]
theorem wgp_drop (l : List Pp) (i : Nat) (h : i < l.length) {a : Int} (ha : 0 ≤ a) : wgpV (l.drop i) a = wgpV (l.drop (i + 1)) (weiV 12 l[i].v (a - ((l[i].k.length / 50 : Nat) : Int))) := by
 rw [List.drop_eq_getElem_cons h]
 show (if a < 0 then a else _) = _
 rw [if_neg (by omega)]
theorem wei_lt' (m : Nat) (x : Vl) (a : Int) (h : 0 ≤ a) (b : Int) (hb : 0 ≤ b) : weiV m x (a - b) < a := by
 by_cases g : 0 ≤ a - b
 ·have := weiV_lt m x g; omega
 ·cases m with
  | zero => show (-1 : Int) < a; omega
  | succ m =>
   rw [weiV_s, weiL_neg _ _ (by omega)]
   omega
theorem wgp_le : ∀ (l : List Pp) (a : Int), wgpV l a ≤ a
 | [], a => Int.le_refl _
 | p :: r, a => by
  by_cases h : a < 0
  ·rw [wgp_neg h]; exact Int.le_refl _
  ·show (if a < 0 then a else _) ≤ a
   rw [if_neg h]
   have k1 := wgp_le r (weiV 12 p.v (a - ((p.k.length / 50 : Nat) : Int)))
   have k2 := wei_lt' 12 p.v a (by omega) ((p.k.length / 50 : Nat) : Int) (by omega)
   omega
set_option maxHeartbeats 6400000 in
set_option maxRecDepth 100000 in
theorem weigh_any (l : List Pp) (ao : Option Addr) (cap : Nat) (a : Int) (w : World) (hs : SlP w ao l cap) (ha : a ≤ 2000) :
  Calls Tryz.prog 42 #[.slice ao l.length cap, .int .i64 a] w (FwI w (wgpV l a)) := by
 have hl := hs.len
 have HS := Lib.hid hs
 have HW := Lib.hid (wq_any 12 (by decide))
 clear hs
 obtain ⟨R, hR⟩ : ∃ R, R = wgpV l a := ⟨_, rfl⟩
 rw [← hR]
 have HR := Lib.hid (show R = wgpV (l.drop 0) a from hR)
 clear hR
 go_enter Tryz.func42, Tryz.ntmps42
 go_wp2
 go_loopw [1, 5] (fun lv iv wr => ∃ (c : Int) (i : Nat), lv = .int .i64 c ∧ iv = .int .i64 i ∧ i ≤ l.length ∧ c ≤ 2000 ∧ Hid (R = wgpV (l.drop i) c) ∧ Hid (Fuw w wr)) (fun _ iv _ => l.length - (RowKit.intOf iv).toNat)
 case atStart => exact ⟨a, 0, rfl, rfl, Nat.zero_le _, ha, HR, Fuw.refl _⟩
 case round =>
  obtain ⟨c, i, rfl, rfl, hi, hc, HN, hf⟩ := hrel
  by_cases hc0 : 0 ≤ c
  ·by_cases hlt : i < l.length
   ·obtain ⟨b, o, rfl, hk, k0, hv⟩ := (slP_on hf.out HS.out).get hlt
    have HA := Lib.hid (HN.out.trans (wgp_drop l i hlt hc0))
    obtain ⟨hy, d0, d1, d2, d3, ao', cap', d4, hs2⟩ := VC_of hv
    have hz : (bs l[i].k).size = l[i].k.length := bs_size _
    unfold maxLen at hk
    have hq : -1000000000000000000 ≤ c - ((l[i].k.length / 50 : Nat) : Int) ∧ c - ((l[i].k.length / 50 : Nat) : Int) ≤ 1000000 := by omega
    have HC := Lib.hid (fun w' (hf' : Fuw wr w') => HW.out l[i].v ao' cap' (c - ((l[i].k.length / 50 : Nat) : Int)) w' hq.1 hq.2 hy (hs2.onw hf'))
    have hlw := wei_lt' 12 l[i].v c hc0 ((l[i].k.length / 50 : Nat) : Int) (by omega)
    unfold vlv at HC
    clear hv hs2 hy
    obtain ⟨n, hn⟩ : ∃ n, n = l[i].k.length / 50 := ⟨_, rfl⟩
    rw [← hn] at HA HC hlw hq
    have n1 : (l[i].k.length : Int).tdiv 50 = (n : Int) := by
     rw [Int.tdiv_eq_ediv_of_nonneg (by omega)]; omega
    have n2 : (l[i].k.length : Int) / 50 = (n : Int) := by omega
    have n3 : IntKind.i64.wrap (n : Int) = (n : Int) := IntWalk.i64_in _ (by omega)
    have n4 : IntKind.i64.wrap (c - (n : Int)) = c - (n : Int) := IntWalk.i64_in _ (by omega)
    have k2 : (i : Int) < (l.length : Int) := by omega
    have k3 : (0 : Int) ≤ (i : Int) := by omega
    clear hn hq hk
    generalize weiV 12 l[i].v (c - (n : Int)) = r at *
    generalize l[i].v = y at *
    generalize l[i].k = key at *
    go_upto_region 4 with fail
    have ff : Fuw wr wr.drew := Fuw.drew (Fuw.refl wr)
    go_region_held3 (fun w' => w'.cell? ⟨b, o + i * 6, none⟩ = some (.string (bs key)) ∧ w'.cell? ⟨b, o + i * 6 + 1, none⟩ = some (.int .i64 y.kd) ∧ w'.cell? ⟨b, o + i * 6 + 1 + 1, none⟩ = some (.int .i64 y.nn) ∧ w'.cell? ⟨b, o + i * 6 + 1 + 2, none⟩ = some (.int .i64 y.dd) ∧ w'.cell? ⟨b, o + i * 6 + 1 + 3, none⟩ = some (.string (bs y.ss)) ∧ w'.cell? ⟨b, o + i * 6 + 1 + 4, none⟩ = some (.slice ao' y.ll.length cap'))
     (first | exact ⟨k0, d0, d1, d2, d3, d4⟩ | exact ⟨cellOnw (ff.trans f4) k0, cellOnw (ff.trans f4) d0, cellOnw (ff.trans f4) d1, cellOnw (ff.trans f4) d2, cellOnw (ff.trans f4) d3, cellOnw (ff.trans f4) d4⟩)
     (first | (go_at_call 43; refine (HC.out _ ff).mono ?_; rintro e w4 ⟨rfl, f4⟩))
    have HF := Lib.hid (hf.out.trans (ff.trans f4))
    clear n1 n2 n3 n4
    go_wp2
    go_roundw
    case rel => exact ⟨r, i + 1, rfl, by go_num, by omega, by omega, HA, HF⟩
    case measure => simp [RowKit.intOf]; omega
   ·have HZ := Lib.hid (show R = c by rw [HN.out, List.drop_of_length_le (by omega)]; rfl)
    go_wp2
    go_ret
    exact ⟨ret_int HZ.out.symm, hf.out⟩
  ·have HZ := Lib.hid (show R = c by rw [HN.out, wgp_neg (by omega)])
   by_cases hlt : i < l.length
   ·go_wp2
    go_ret
    exact ⟨ret_int HZ.out.symm, hf.out⟩
   ·go_wp2
    go_ret
    exact ⟨ret_int HZ.out.symm, hf.out⟩
end Go.Proofs.YtpamdlkagmlahaaGreatDoor
namespace Go.Proofs.YtpamdlkagmlahaaGreatDoor
open Go.RowKit
def lblV : List (List UInt8) → Int → Int
 | [], a => a
 | s :: r, a => if a < 0 then a else lblV r (a - ((s.length / 50 : Nat) : Int))
def nodW (n : Nd) (a : Int) : Int := lblV n.ls (wgpV n.ps (a - (n.ls.length : Int)))
def nwV : List Nd → Int → Int
 | [], a => a
 | n :: r, a => if a < 0 then a else nwV r (nodW n a)
def ewV : List Ed → Int → Int
 | [], a => a
 | e :: r, a => if a < 0 then a else ewV r (wgpV e.ps (a - ((e.ty.length / 50 : Nat) : Int)))
def smlV (g : Gr) (N M : Nat) : Bool := (decide (g.ns.length ≤ N) && decide (g.es.length ≤ M)) && decide (0 ≤ ewV g.es (nwV g.ns 2000))
theorem lbl_neg {a : Int} (h : a < 0) : ∀ l : List (List UInt8), lblV l a = a
 | [] => rfl
 | p :: r => by unfold lblV; rw [if_pos h]
theorem nw_neg {a : Int} (h : a < 0) : ∀ l : List Nd, nwV l a = a
 | [] => rfl
 | p :: r => by unfold nwV; rw [if_pos h]
theorem ew_neg {a : Int} (h : a < 0) : ∀ l : List Ed, ewV l a = a
 | [] => rfl
 | p :: r => by unfold ewV; rw [if_pos h]
theorem lbl_drop (l : List (List UInt8)) (i : Nat) (h : i < l.length) {a : Int} (ha : 0 ≤ a) : lblV (l.drop i) a = lblV (l.drop (i + 1)) (a - ((l[i].length / 50 : Nat) : Int)) := by
 rw [List.drop_eq_getElem_cons h]
 show (if a < 0 then a else _) = _
 rw [if_neg (by omega)]
theorem nw_drop (l : List Nd) (i : Nat) (h : i < l.length) {a : Int} (ha : 0 ≤ a) : nwV (l.drop i) a = nwV (l.drop (i + 1)) (nodW l[i] a) := by
 rw [List.drop_eq_getElem_cons h]
 show (if a < 0 then a else _) = _
 rw [if_neg (by omega)]
theorem ew_drop (l : List Ed) (i : Nat) (h : i < l.length) {a : Int} (ha : 0 ≤ a) : ewV (l.drop i) a = ewV (l.drop (i + 1)) (wgpV l[i].ps (a - ((l[i].ty.length / 50 : Nat) : Int))) := by
 rw [List.drop_eq_getElem_cons h]
 show (if a < 0 then a else _) = _
 rw [if_neg (by omega)]
theorem sml_1 {g : Gr} {N M : Nat} (h : N < g.ns.length) : smlV g N M = false := by
 unfold smlV; rw [decide_eq_false (show ¬ g.ns.length ≤ N by omega)]; rfl
theorem sml_2 {g : Gr} {N M : Nat} (h : M < g.es.length) : smlV g N M = false := by
 unfold smlV; rw [decide_eq_false (show ¬ g.es.length ≤ M by omega), Bool.and_false]; rfl
theorem sml_c {g : Gr} {N M : Nat} (h : g.ns.length ≤ N) (h' : g.es.length ≤ M) : smlV g N M = decide (0 ≤ ewV g.es (nwV (g.ns.drop 0) 2000)) := by
 unfold smlV; rw [decide_eq_true h, decide_eq_true h']; rfl
set_option maxHeartbeats 6400000 in
set_option maxRecDepth 100000 in
theorem small_any (g : Gr) (an ae : Option Addr) (cn ce : Nat) (N M : Nat) (w : World) (hg : GIn w g an ae cn ce) :
  Calls Tryz.prog 15 #[grv g an ae cn ce, .int .i64 (N : Int), .int .i64 (M : Int)] w (FwB w (smlV g N M)) := by
 have hb0 := GB.new w g an ae cn ce
 have f0 := fuwA w (.cells #[.slice an g.ns.length cn, .slice ae g.es.length ce, .int .i64 g.nn, .int .i64 g.ne] 25)
 have l1 := hg.n.len
 have l2 := hg.e.len
 by_cases h1 : N < g.ns.length
 ·have HZ := Lib.hid (sml_1 (M := M) h1)
  have h1' : (N : Int) < (g.ns.length : Int) := by omega
  have F0 := Lib.hid f0
  clear f0 hb0 hg
  generalize smlV g N M = R at *
  unfold grv
  go_enter Tryz.func15, Tryz.ntmps15
  go_wp2
  go_ret
  exact ⟨ret_bool HZ.out.symm, F0.out⟩
 ·by_cases h2 : M < g.es.length
  ·have HZ := Lib.hid (sml_2 (N := N) h2)
   have h1' : ¬ (N : Int) < (g.ns.length : Int) := by omega
   have h2' : (M : Int) < (g.es.length : Int) := by omega
   have F0 := Lib.hid f0
   clear f0 hb0 hg
   generalize smlV g N M = R at *
   unfold grv
   go_enter Tryz.func15, Tryz.ntmps15
   go_wp2
   go_ret
   exact ⟨ret_bool HZ.out.symm, F0.out⟩
  ·have HZ := Lib.hid (sml_c (g := g) (N := N) (M := M) (by omega) (by omega))
   have h1' : ¬ (N : Int) < (g.ns.length : Int) := by omega
   have h2' : ¬ (M : Int) < (g.es.length : Int) := by omega
   generalize smlV g N M = R at *
   unfold grv
   obtain ⟨w0, hw0⟩ : ∃ w0, w0 = w.alloc (.cells #[.slice an g.ns.length cn, .slice ae g.es.length ce, .int .i64 g.nn, .int .i64 g.ne] 25) := ⟨_, rfl⟩
   rw [← hw0] at f0 hb0
   have HW0 := Lib.hid hw0
   have F0 := Lib.hid f0
   have HB := Lib.hid hb0
   have HN := Lib.hid (slN_on f0 hg.n)
   have HE := Lib.hid (slE_on f0 hg.e)
   clear hw0 f0 hb0 hg
   go_enter Tryz.func15, Tryz.ntmps15
   go_wp2
   go_loopw [7, 8] (fun lv iv wr => ∃ (c : Int) (i : Nat), lv = .int .i64 c ∧ iv = .int .i64 i ∧ i ≤ g.ns.length ∧ c ≤ 2000 ∧ Hid (R = decide (0 ≤ ewV g.es (nwV (g.ns.drop i) c))) ∧ Hid (Fuw w0 wr)) (fun _ iv _ => g.ns.length - (RowKit.intOf iv).toNat)
   case atStart => exact ⟨2000, 0, rfl, rfl, Nat.zero_le _, Int.le_refl _, HZ, by rw [HW0.out]; exact Fuw.refl _⟩
   case round =>
    obtain ⟨c, i, rfl, rfl, hi, hc, HQ, hf⟩ := hrel
    clear HZ
    have q0 := (HB.out.on hf.out).c0
    by_cases hgo : i < g.ns.length ∧ 0 ≤ c
    ·obtain ⟨hlt, hc0⟩ := hgo
     obtain ⟨b, o, rfl, i1, c0, ⟨al, cl, c1, hsl⟩, ap, cp, c2, hsp⟩ := (slN_on hf.out HN.out).get hlt
     have HA := Lib.hid (nw_drop g.ns i hlt hc0)
     have HD := Lib.hid (show nodW g.ns[i] c = lblV (g.ns[i].ls.drop 0) (wgpV g.ns[i].ps (c - (g.ns[i].ls.length : Int))) from rfl)
     have hle := wgp_le g.ns[i].ps (c - (g.ns[i].ls.length : Int))
     have HC := Lib.hid (fun w' (hf' : Fuw wr w') => weigh_any g.ns[i].ps ap cp (c - (g.ns[i].ls.length : Int)) w' (slP_on hf' hsp) (by omega))
     have HLS := Lib.hid hsl
     have nl := hsl.len
     clear hsl hsp i1
     generalize g.ns[i] = n at *
     generalize wgpV n.ps (c - (n.ls.length : Int)) = r at *
     generalize nodW n c = nd at *
     go_upto_region 8 with fail
     obtain ⟨W, hW⟩ : ∃ W, W = wr.alloc (.cells #[.int .i64 n.id, .slice al n.ls.length cl, .slice ap n.ps.length cp] 51) := ⟨_, rfl⟩
     have hfW : Fuw wr W := by rw [hW]; exact fuwA _ _
     have hBn : Bk W wr.heap.size #[.int .i64 n.id, .slice al n.ls.length cl, .slice ap n.ps.length cp] 51 := by rw [hW]; exact Bk.new _ _ _
     rw [← hW]
     clear hW q0 c0 c1 c2
     have d1 : W.cell? ⟨wr.heap.size, 1, none⟩ = some (.slice al n.ls.length cl) := hBn.c 1
     have d2 : W.cell? ⟨wr.heap.size, 2, none⟩ = some (.slice ap n.ps.length cp) := hBn.c 2
     have HBn := Lib.hid hBn
     have FW := Lib.hid hfW
     clear hBn hfW
     go_wp2_with fail
     go_at_call 42; refine (HC.out _ FW.out).mono ?_; rintro e1 w1 ⟨rfl, f1⟩
     have F1 := Lib.hid f1
     have HR0 := Lib.hid (show nd = lblV (n.ls.drop 0) r from HD.out)
     have hr : r ≤ 2000 := by omega
     have FB := Lib.hid (show Fuw w1 w1 from Fuw.refl _)
     clear d1 d2 f1 hle
     go_wp2
     go_loopw [7, 10] (fun lv kv wx => ∃ (d : Int) (k : Nat), lv = .int .i64 d ∧ kv = .int .i64 k ∧ k ≤ n.ls.length ∧ d ≤ 2000 ∧ Hid (nd = lblV (n.ls.drop k) d) ∧ Hid (Fuw w1 wx)) (fun _ kv _ => n.ls.length - (RowKit.intOf kv).toNat)
     case atStart => exact ⟨r, 0, rfl, rfl, Nat.zero_le _, hr, HR0, FB⟩
     case round =>
      obtain ⟨d, k, rfl, rfl, hk, hd, HU, hfx⟩ := hrel
      have FX := Lib.hid (FW.out.trans (F1.out.trans hfx.out))
      have d1 : wr.cell? ⟨_, 1, none⟩ = some (.slice al n.ls.length cl) := (HBn.out.on (F1.out.trans hfx.out)).c 1
      by_cases hgo : k < n.ls.length ∧ 0 ≤ d
      ·obtain ⟨hlk, hd0⟩ := hgo
       obtain ⟨b', o', rfl, hz, c0⟩ := (slS_on FX.out HLS.out).get hlk
       have HV := Lib.hid (HU.out.trans (lbl_drop n.ls k hlk hd0))
       rw [Nat.mul_one] at c0
       have hz' : (bs n.ls[k]).size = n.ls[k].length := bs_size _
       unfold maxLen at hz
       obtain ⟨m, hm⟩ : ∃ m, m = n.ls[k].length / 50 := ⟨_, rfl⟩
       rw [← hm] at HV
       have hm2 : ((n.ls[k].length : Int)) / 50 = (m : Int) := by omega
       clear hm
       generalize n.ls[k] = s at *
       go_wp2
       go_roundw
       case rel => exact ⟨d - (m : Int), k + 1, rfl, by go_num, by omega, by omega, HV, hfx⟩
       case measure => simp [RowKit.intOf]; omega
      ·have HV := Lib.hid (show nd = d by
        rw [HU.out]
        by_cases g1 : k < n.ls.length
        ·exact lbl_neg (by omega) _
        ·rw [List.drop_of_length_le (by omega)]; rfl)
       have HT := Lib.hid (show R = decide (0 ≤ ewV g.es (nwV (g.ns.drop (i + 1)) d)) by rw [HQ.out, HA.out, HV.out])
       have HFF := Lib.hid (hf.out.trans FX.out)
       by_cases g1 : k < n.ls.length
       ·have g2 : ¬ 0 ≤ d := by omega
        clear hgo
        go_wp2
        go_roundw
        case rel => exact ⟨d, i + 1, rfl, by go_num, by omega, hd, HT, HFF⟩
        case measure => simp [RowKit.intOf]; omega
       ·clear hgo
        go_wp2
        go_roundw
        case rel => exact ⟨d, i + 1, rfl, by go_num, by omega, hd, HT, HFF⟩
        case measure => simp [RowKit.intOf]; omega
    ·have HV := Lib.hid (show R = decide (0 ≤ ewV (g.es.drop 0) c) from by
      rw [HQ.out]
      by_cases g1 : i < g.ns.length
      ·rw [nw_neg (by omega)]; rfl
      ·rw [List.drop_of_length_le (show g.ns.length ≤ i by omega)]; rfl)
     have HTL := Lib.hid (fun (W : World) => Fuw.refl W)
     by_cases g1 : i < g.ns.length
     all_goals
      (try have g2 : ¬ 0 ≤ c := by omega)
      clear hgo
      go_wp2
      go_loopw [7, 11] (fun lv kv wx => ∃ (d : Int) (k : Nat), lv = .int .i64 d ∧ kv = .int .i64 k ∧ k ≤ g.es.length ∧ d ≤ 2000 ∧ Hid (R = decide (0 ≤ ewV (g.es.drop k) d)) ∧ Hid (Fuw w0 wx)) (fun _ kv _ => g.es.length - (RowKit.intOf kv).toNat)
      case atStart => exact ⟨c, 0, rfl, rfl, Nat.zero_le _, hc, HV, hf⟩
      case round =>
       obtain ⟨d, k, rfl, rfl, hk, hd, HU, hfx⟩ := hrel
       have q1 := (HB.out.on hfx.out).c1
       by_cases hgo : k < g.es.length ∧ 0 ≤ d
       ·obtain ⟨hlk, hd0⟩ := hgo
        obtain ⟨b', o', rfl, -, -, -, hz, c0, c1, c2, c3, ap, cp, c4, hsp⟩ := (slE_on hfx.out HE.out).get hlk
        have HA := Lib.hid (HU.out.trans (by rw [ew_drop g.es k hlk hd0]))
        have hz' : (bs g.es[k].ty).size = g.es[k].ty.length := bs_size _
        unfold maxLen at hz
        have HC := Lib.hid (fun w' (hf' : Fuw _ w') => weigh_any g.es[k].ps ap cp (d - ((g.es[k].ty.length / 50 : Nat) : Int)) w' (slP_on hf' hsp) (by omega))
        have hle := wgp_le g.es[k].ps (d - ((g.es[k].ty.length / 50 : Nat) : Int))
        clear hsp
        obtain ⟨n, hn⟩ : ∃ n, n = g.es[k].ty.length / 50 := ⟨_, rfl⟩
        rw [← hn] at HA HC hle
        have n1 : (g.es[k].ty.length : Int).tdiv 50 = (n : Int) := by
         rw [Int.tdiv_eq_ediv_of_nonneg (by omega)]; omega
        have n2 : (g.es[k].ty.length : Int) / 50 = (n : Int) := by omega
        have n3 : IntKind.i64.wrap (n : Int) = (n : Int) := IntWalk.i64_in _ (by omega)
        have n4 : IntKind.i64.wrap (d - (n : Int)) = d - (n : Int) := IntWalk.i64_in _ (by omega)
        have k2 : (k : Int) < (g.es.length : Int) := by omega
        have k3 : (0 : Int) ≤ (k : Int) := by omega
        clear hn hz
        generalize wgpV g.es[k].ps (d - (n : Int)) = r at *
        generalize g.es[k] = e at *
        go_upto_region 16 with fail
        have ff : Fuw wr wr.drew := Fuw.drew (Fuw.refl wr)
        go_region_held3 (fun w' => w'.cell? ⟨w.heap.size, 1, none⟩ = some (.slice (some ⟨b', o', none⟩) g.es.length ce) ∧ w'.cell? ⟨b', o' + k * 5 + 3, none⟩ = some (.string (bs e.ty)) ∧ w'.cell? ⟨b', o' + k * 5 + 4, none⟩ = some (.slice ap e.ps.length cp))
         (first | exact ⟨q1, c3, c4⟩ | exact ⟨cellOnw (ff.trans f4) q1, cellOnw (ff.trans f4) c3, cellOnw (ff.trans f4) c4⟩)
         (first | (go_at_call 42; refine (HC.out _ ff).mono ?_; rintro e w4 ⟨rfl, f4⟩))
        have HF := Lib.hid (hfx.out.trans (ff.trans f4))
        clear n1 n2 n3 n4
        go_wp2
        go_roundw
        case rel => exact ⟨r, k + 1, rfl, by go_num, by omega, by omega, HA, HF⟩
        case measure => simp [RowKit.intOf]; omega
       ·have HW := Lib.hid (show R = decide (0 ≤ d) from by
         rw [HU.out]
         by_cases g3 : k < g.es.length
         ·rw [ew_neg (by omega)]
         ·rw [List.drop_of_length_le (show g.es.length ≤ k by omega)]; try rfl)
        have hbd : (decide (0 ≤ d) = true) ∨ (decide (0 ≤ d) = false) := by cases decide (0 ≤ d) <;> simp
        by_cases g3 : k < g.es.length
        ·have g4 : ¬ 0 ≤ d := by omega
         clear hgo hbd
         go_wp2
         go_ret
         exact ⟨ret_bool (by rw [HW.out]; simp [g4]), F0.out.trans hfx.out⟩
        ·clear hgo hbd
         go_wp2
         all_goals
          go_ret
          exact ⟨ret_bool (by first | exact HW.out.symm | (rw [HW.out]; simp_all)), F0.out.trans hfx.out⟩
end Go.Proofs.YtpamdlkagmlahaaGreatDoor

namespace Go.Proofs.YtpamdlkagmlahaaGreatDoor
open Go.RowKit
theorem infoP : (Tryz.prog.info? 48).map (fun i => (i.zero, i.size, i.bytes)) = some (some (.agg #[.string ⟨#[]⟩, .int .i64 0, .int .i64 0, .int .i64 0, .string ⟨#[]⟩, .slice none 0 0]), 6, 80) := by kernel_rfl
end Go.Proofs.YtpamdlkagmlahaaGreatDoor

namespace Go.Proofs.YtpamdlkagmlahaaGreatDoor
open Go.RowKit
theorem infoN : (Tryz.prog.info? 51).map (fun i => (i.zero, i.size, i.bytes)) = some (some (.agg #[.int .i64 0, .slice none 0 0, .slice none 0 0]), 3, 56) := by kernel_rfl
theorem infoE : (Tryz.prog.info? 53).map (fun i => (i.zero, i.size, i.bytes)) = some (some (.agg #[.int .i64 0, .int .i64 0, .int .i64 0, .string ⟨#[]⟩, .slice none 0 0]), 5, 64) := by kernel_rfl
end Go.Proofs.YtpamdlkagmlahaaGreatDoor

namespace Go.Proofs.YtpamdlkagmlahaaGreatDoor
open Go.RowKit
def RetCn (w : World) (T : TypeId) (s n : Nat) (xs : List Value) (e : Ending) (w' : World) : Prop := ∃ v, e = .returned v ∧ w'.ownsRow w.heap.size T s v n xs ∧ Fuw w w'
set_option maxHeartbeats 2000000 in
set_option maxRecDepth 100000 in
theorem clone_s (xs : List Value) (n cap : Nat) (ao : Option Addr) (w : World) (hnil : ao = none → n = 0 ∧ cap = 0) (hc : ∀ p, ao = some p → ∀ j u, xs[j]? = some u → w.cell? (p.add j) = some u) (hx : xs.length = n * 1) (hn : n ≤ 100000) (h1 : ∀ u ∈ xs, u.oneCell' = true) :
  Calls Tryz.prog 69 #[.slice ao n cap] w (RetCn w 9 1 n xs) := by
 obtain ⟨i0, hi, hz0, hz1, hz2⟩ := info_parts infoS
 have q22 : ∀ (w : World) (a : Option Addr) (n c n' c' : Nat), (binOp .eql 46 (.slice a n c) (.slice none n' c')).run Tryz.prog w = .ok (.bool a.isNone) w := fun w a n c n' c' => Lib.run_eql_slice_nil w _ _ a n c n' c' Tryz.underlying46
 cases ao with
 | none =>
  obtain ⟨rfl, rfl⟩ := hnil rfl
  obtain rfl : xs = [] := List.eq_nil_of_length_eq_zero (by omega)
  clear hc hnil hx h1 hn
  go_enter Tryz.func69, Tryz.ntmps69
  go_wp2
  go_ret
  exact ⟨_, rfl, World.ownsRow_nil _ _ _ _, Fuw.refl _⟩
 | some p =>
  have HC := Lib.hid (hc p rfl)
  have HX := Lib.hid hx
  have H1 := Lib.hid h1
  clear hc hx h1 hnil
  go_enter Tryz.func69, Tryz.ntmps69
  go_wp2_with (at_builtin; refine wpList_append_own _ rfl _ _ 46 rfl w.heap.size 9 i0 _ 1 16 Tryz.underlying46 hi hz0 hz1 hz2 rfl (by decide) _ _ _ rfl (World.ownsRow_made w #[] 0 (Nat.le_refl _) (Nat.zero_le _) (by simp)) p n cap xs rfl ?qc1 ?qc2 ?qc3 ?qc4 ?qc5 ?qc6 ?_)
  case qc1 => have := HX.out; omega
  case qc2 =>
   intro j u hj
   exact cellOnw (fuwA w _) (HC.out j u hj)
  case qc3 => exact H1.out
  case qc4 => unfold maxLen; omega
  case qc5 => omega
  case qc6 => simp
  intro v' w1 hown hgrow hnil
  have HO := Lib.hid (show w1.ownsRow w.heap.size 9 1 v' n xs from by simpa using hown)
  have HG := Lib.hid (show Fuw w w1 from ((Below.refl _ w).alloc (Nat.le_refl _) _).grown hgrow (by simp) (by intro k hk; simp [Value.ownBlock] at hk; omega))
  clear hown hgrow hnil
  go_wp2
  go_ret
  exact ⟨v', rfl, HO.out, HG.out⟩
set_option maxHeartbeats 2000000 in
set_option maxRecDepth 100000 in
theorem clone_p (xs : List Value) (n cap : Nat) (ao : Option Addr) (w : World) (hnil : ao = none → n = 0 ∧ cap = 0) (hc : ∀ p, ao = some p → ∀ j u, xs[j]? = some u → w.cell? (p.add j) = some u) (hx : xs.length = n * 6) (hn : n ≤ 100000) (h1 : ∀ u ∈ xs, u.oneCell' = true) :
  Calls Tryz.prog 70 #[.slice ao n cap] w (RetCn w 48 6 n xs) := by
 obtain ⟨i0, hi, hz0, hz1, hz2⟩ := info_parts infoP
 have q22 : ∀ (w : World) (a : Option Addr) (n c n' c' : Nat), (binOp .eql 49 (.slice a n c) (.slice none n' c')).run Tryz.prog w = .ok (.bool a.isNone) w := fun w a n c n' c' => Lib.run_eql_slice_nil w _ _ a n c n' c' Tryz.underlying49
 cases ao with
 | none =>
  obtain ⟨rfl, rfl⟩ := hnil rfl
  obtain rfl : xs = [] := List.eq_nil_of_length_eq_zero (by omega)
  clear hc hnil hx h1 hn
  go_enter Tryz.func70, Tryz.ntmps70
  go_wp2
  go_ret
  exact ⟨_, rfl, World.ownsRow_nil _ _ _ _, Fuw.refl _⟩
 | some p =>
  have HC := Lib.hid (hc p rfl)
  have HX := Lib.hid hx
  have H1 := Lib.hid h1
  clear hc hx h1 hnil
  go_enter Tryz.func70, Tryz.ntmps70
  go_wp2_with (at_builtin; refine wpList_append_own _ rfl _ _ 49 rfl w.heap.size 48 i0 _ 6 80 Tryz.underlying49 hi hz0 hz1 hz2 rfl (by decide) _ _ _ rfl (World.ownsRow_made w #[] 0 (Nat.le_refl _) (Nat.zero_le _) (by simp)) p n cap xs rfl ?qc1 ?qc2 ?qc3 ?qc4 ?qc5 ?qc6 ?_)
  case qc1 => have := HX.out; omega
  case qc2 =>
   intro j u hj
   exact cellOnw (fuwA w _) (HC.out j u hj)
  case qc3 => exact H1.out
  case qc4 => unfold maxLen; omega
  case qc5 => omega
  case qc6 => simp
  intro v' w1 hown hgrow hnil
  have HO := Lib.hid (show w1.ownsRow w.heap.size 48 6 v' n xs from by simpa using hown)
  have HG := Lib.hid (show Fuw w w1 from ((Below.refl _ w).alloc (Nat.le_refl _) _).grown hgrow (by simp) (by intro k hk; simp [Value.ownBlock] at hk; omega))
  clear hown hgrow hnil
  go_wp2
  go_ret
  exact ⟨v', rfl, HO.out, HG.out⟩
set_option maxHeartbeats 2000000 in
set_option maxRecDepth 100000 in
theorem clone_n (xs : List Value) (n cap : Nat) (ao : Option Addr) (w : World) (hnil : ao = none → n = 0 ∧ cap = 0) (hc : ∀ p, ao = some p → ∀ j u, xs[j]? = some u → w.cell? (p.add j) = some u) (hx : xs.length = n * 3) (hn : n ≤ 100000) (h1 : ∀ u ∈ xs, u.oneCell' = true) :
  Calls Tryz.prog 67 #[.slice ao n cap] w (RetCn w 51 3 n xs) := by
 obtain ⟨i0, hi, hz0, hz1, hz2⟩ := info_parts infoN
 have q22 : ∀ (w : World) (a : Option Addr) (n c n' c' : Nat), (binOp .eql 22 (.slice a n c) (.slice none n' c')).run Tryz.prog w = .ok (.bool a.isNone) w := fun w a n c n' c' => Lib.run_eql_slice_nil w _ _ a n c n' c' Tryz.underlying22
 cases ao with
 | none =>
  obtain ⟨rfl, rfl⟩ := hnil rfl
  obtain rfl : xs = [] := List.eq_nil_of_length_eq_zero (by omega)
  clear hc hnil hx h1 hn
  go_enter Tryz.func67, Tryz.ntmps67
  go_wp2
  go_ret
  exact ⟨_, rfl, World.ownsRow_nil _ _ _ _, Fuw.refl _⟩
 | some p =>
  have HC := Lib.hid (hc p rfl)
  have HX := Lib.hid hx
  have H1 := Lib.hid h1
  clear hc hx h1 hnil
  go_enter Tryz.func67, Tryz.ntmps67
  go_wp2_with (at_builtin; refine wpList_append_own _ rfl _ _ 22 rfl w.heap.size 51 i0 _ 3 56 Tryz.underlying22 hi hz0 hz1 hz2 rfl (by decide) _ _ _ rfl (World.ownsRow_made w #[] 0 (Nat.le_refl _) (Nat.zero_le _) (by simp)) p n cap xs rfl ?qc1 ?qc2 ?qc3 ?qc4 ?qc5 ?qc6 ?_)
  case qc1 => have := HX.out; omega
  case qc2 =>
   intro j u hj
   exact cellOnw (fuwA w _) (HC.out j u hj)
  case qc3 => exact H1.out
  case qc4 => unfold maxLen; omega
  case qc5 => omega
  case qc6 => simp
  intro v' w1 hown hgrow hnil
  have HO := Lib.hid (show w1.ownsRow w.heap.size 51 3 v' n xs from by simpa using hown)
  have HG := Lib.hid (show Fuw w w1 from ((Below.refl _ w).alloc (Nat.le_refl _) _).grown hgrow (by simp) (by intro k hk; simp [Value.ownBlock] at hk; omega))
  clear hown hgrow hnil
  go_wp2
  go_ret
  exact ⟨v', rfl, HO.out, HG.out⟩
set_option maxHeartbeats 2000000 in
set_option maxRecDepth 100000 in
theorem clone_e (xs : List Value) (n cap : Nat) (ao : Option Addr) (w : World) (hnil : ao = none → n = 0 ∧ cap = 0) (hc : ∀ p, ao = some p → ∀ j u, xs[j]? = some u → w.cell? (p.add j) = some u) (hx : xs.length = n * 5) (hn : n ≤ 100000) (h1 : ∀ u ∈ xs, u.oneCell' = true) :
  Calls Tryz.prog 68 #[.slice ao n cap] w (RetCn w 53 5 n xs) := by
 obtain ⟨i0, hi, hz0, hz1, hz2⟩ := info_parts infoE
 have q22 : ∀ (w : World) (a : Option Addr) (n c n' c' : Nat), (binOp .eql 23 (.slice a n c) (.slice none n' c')).run Tryz.prog w = .ok (.bool a.isNone) w := fun w a n c n' c' => Lib.run_eql_slice_nil w _ _ a n c n' c' Tryz.underlying23
 cases ao with
 | none =>
  obtain ⟨rfl, rfl⟩ := hnil rfl
  obtain rfl : xs = [] := List.eq_nil_of_length_eq_zero (by omega)
  clear hc hnil hx h1 hn
  go_enter Tryz.func68, Tryz.ntmps68
  go_wp2
  go_ret
  exact ⟨_, rfl, World.ownsRow_nil _ _ _ _, Fuw.refl _⟩
 | some p =>
  have HC := Lib.hid (hc p rfl)
  have HX := Lib.hid hx
  have H1 := Lib.hid h1
  clear hc hx h1 hnil
  go_enter Tryz.func68, Tryz.ntmps68
  go_wp2_with (at_builtin; refine wpList_append_own _ rfl _ _ 23 rfl w.heap.size 53 i0 _ 5 64 Tryz.underlying23 hi hz0 hz1 hz2 rfl (by decide) _ _ _ rfl (World.ownsRow_made w #[] 0 (Nat.le_refl _) (Nat.zero_le _) (by simp)) p n cap xs rfl ?qc1 ?qc2 ?qc3 ?qc4 ?qc5 ?qc6 ?_)
  case qc1 => have := HX.out; omega
  case qc2 =>
   intro j u hj
   exact cellOnw (fuwA w _) (HC.out j u hj)
  case qc3 => exact H1.out
  case qc4 => unfold maxLen; omega
  case qc5 => omega
  case qc6 => simp
  intro v' w1 hown hgrow hnil
  have HO := Lib.hid (show w1.ownsRow w.heap.size 53 5 v' n xs from by simpa using hown)
  have HG := Lib.hid (show Fuw w w1 from ((Below.refl _ w).alloc (Nat.le_refl _) _).grown hgrow (by simp) (by intro k hk; simp [Value.ownBlock] at hk; omega))
  clear hown hgrow hnil
  go_wp2
  go_ret
  exact ⟨v', rfl, HO.out, HG.out⟩
end Go.Proofs.YtpamdlkagmlahaaGreatDoor
