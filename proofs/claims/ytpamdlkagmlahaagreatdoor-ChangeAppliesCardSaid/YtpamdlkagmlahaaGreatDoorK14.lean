/-
  M24; M25; M26; M27; GsF: texts of one kind in one file; each part says what it holds.
-/
import Derived.Test.YtpamdlkagmlahaaGreatDoorK06
import Derived.Test.YtpamdlkagmlahaaGreatDoorK13
import Derived.Test.YtpamdlkagmlahaaGreatDoorK01
import Derived.Test.YtpamdlkagmlahaaGreatDoorM05
import Derived.Orders
import Derived.RegionTactic
import Derived.Maps.AppendAt
import Derived.Laws.AppendOwnNone
import Derived.Test.YtpamdlkagmlahaaGreatDoorK08
import Derived.Lib.SlicesCompact
import Derived.Lib.RowBridge
import Derived.Test.YtpamdlkagmlahaaGreatDoorK02

namespace Go.Proofs.YtpamdlkagmlahaaGreatDoor
open Go.RowKit
def eqS (x y : List UInt8) : Bool := x == y
set_option maxHeartbeats 1600000 in
set_option maxRecDepth 100000 in
theorem rsstr_any (a b : List (List UInt8)) (ao bo : Option Addr) (ca cb : Nat) (w : World) (ha : SlS w ao a ca) (hb : SlS w bo b cb) :
  Calls Tryz.prog 65 #[.slice ao a.length ca, .slice bo b.length cb] w (FwB w (al2 eqS a b)) := by
 have la := ha.len
 have lb := hb.len
 have HA := Lib.hid ha
 have HB := Lib.hid hb
 clear ha hb
 obtain ⟨R, hR⟩ : ∃ R, R = al2 eqS a b := ⟨_, rfl⟩
 rw [← hR]
 have HR := Lib.hid hR
 clear hR
 by_cases hl : a.length = b.length
 ·have HL := Lib.hid hl
  have hq : ((a.length : Int) != (b.length : Int)) = false := by rw [hl]; simp
  have hS := Lib.hid (show R = al2 eqS (a.drop 0) (b.drop 0) from HR.out)
  clear hl
  go_enter Tryz.func65, Tryz.ntmps65
  go_wp2
  clear hq
  go_loopw [5] (fun iv wr => ∃ i : Nat, iv = .int .i64 i ∧ i ≤ a.length ∧ Hid (R = al2 eqS (a.drop i) (b.drop i)) ∧ Hid (Fuw w wr)) (fun iv _ => a.length - (RowKit.intOf iv).toNat)
  case atStart => exact ⟨0, rfl, Nat.zero_le _, hS, Fuw.refl _⟩
  case round =>
   obtain ⟨i, rfl, hi, HQ, hf⟩ := hrel
   by_cases hlt : i < a.length
   ·have hlb : i < b.length := by have := HL.out; omega
    obtain ⟨g, o, rfl, -, c0⟩ := (slS_on hf.out HA.out).get hlt
    obtain ⟨g', o', rfl, -, d0⟩ := (slS_on hf.out HB.out).get hlb
    have HD := Lib.hid (HQ.out.trans (al2_drop eqS a b i hlt hlb))
    rw [Nat.mul_one] at c0 d0
    generalize a[i] = x at *
    generalize b[i] = y at *
    cases hr : ((bs x).toList == (bs y).toList) with
    | false =>
     have HZ := Lib.hid (show R = false by
      rw [bs_eq] at hr
      rw [HD.out]
      unfold eqS
      rw [hr]; rfl)
     have hn : ((bs x).toList != (bs y).toList) = true := by rw [bne, hr]; rfl
     go_wp2
     go_quiet (fail)
     clear hn hr
     go_wp2
     go_ret
     exact ⟨ret_bool HZ.out.symm, hf.out.trans (fuw_dr _ _)⟩
    | true =>
     have HZ := Lib.hid (show R = al2 eqS (a.drop (i + 1)) (b.drop (i + 1)) by
      rw [bs_eq] at hr
      rw [HD.out]
      unfold eqS
      rw [hr]; rfl)
     have hn : ((bs x).toList != (bs y).toList) = false := by rw [bne, hr]; rfl
     go_wp2
     go_quiet (fail)
     clear hn hr
     go_wp2
     go_roundw
     case rel => exact ⟨i + 1, by go_num, by omega, HZ, hf.out.trans (fuw_dr _ _)⟩
     case measure => simp [RowKit.intOf]; omega
   ·have HZ := Lib.hid (show R = true by rw [HQ.out, al2_end _ _ _ _ (by omega) (by have := HL.out; omega)])
    go_wp2
    go_ret
    exact ⟨ret_bool HZ.out.symm, hf.out⟩
 ·have HZ := Lib.hid (show R = false by rw [HR.out]; exact al2_len _ _ _ hl)
  have hq : ((a.length : Int) != (b.length : Int)) = true := by rw [bne_iff_ne]; omega
  clear hl
  go_enter Tryz.func65, Tryz.ntmps65
  go_wp2
  go_ret
  exact ⟨ret_bool HZ.out.symm, Fuw.refl _⟩
set_option maxHeartbeats 3200000 in
set_option maxRecDepth 100000 in
theorem rsprop_any (a l : List Pp) (ao bo : Option Addr) (ca cb : Nat) (w : World) (ha : SlP w ao a ca) (hb : SlP w bo l cb) :
  Calls Tryz.prog 66 #[.slice ao a.length ca, .slice bo l.length cb] w (FwB w (al2 samP a l)) := by
 have la := ha.len
 have lb := hb.len
 have HA := Lib.hid ha
 have HB := Lib.hid hb
 clear ha hb
 obtain ⟨R, hR⟩ : ∃ R, R = al2 samP a l := ⟨_, rfl⟩
 rw [← hR]
 have HR := Lib.hid hR
 clear hR
 by_cases hl : a.length = l.length
 ·have HL := Lib.hid hl
  have hq : ((a.length : Int) != (l.length : Int)) = false := by rw [hl]; simp
  have hS := Lib.hid (show R = al2 samP (a.drop 0) (l.drop 0) from HR.out)
  clear hl
  go_enter Tryz.func66, Tryz.ntmps66
  go_wp2
  clear hq
  go_loopw [5] (fun iv wr => ∃ i : Nat, iv = .int .i64 i ∧ i ≤ a.length ∧ Hid (R = al2 samP (a.drop i) (l.drop i)) ∧ Hid (Fuw w wr)) (fun iv _ => a.length - (RowKit.intOf iv).toNat)
  case atStart => exact ⟨0, rfl, Nat.zero_le _, hS, Fuw.refl _⟩
  case round =>
   obtain ⟨i, rfl, hi, HQ, hf⟩ := hrel
   by_cases hlt : i < a.length
   ·have hlb : i < l.length := by have := HL.out; omega
    have hlt2 : (i : Int) < (a.length : Int) := by omega
    have hlb2 : (i : Int) < (l.length : Int) := by omega
    obtain ⟨b, o, rfl, -, k0, hv⟩ := (slP_on hf.out HA.out).get hlt
    obtain ⟨b', o', rfl, -, k0', hv'⟩ := (slP_on hf.out HB.out).get hlb
    obtain ⟨hy, c0, c1, c2, c3, a1, k1, c4, hs1⟩ := VC_of hv
    obtain ⟨hy', d0, d1, d2, d3, a2, k2, d4, hs2⟩ := VC_of hv'
    have HC := Lib.hid (fun w' (hf' : Fuw wr w') => rorder_all a[i].v l[i].v a1 a2 k1 k2 w' hy hy' (hs1.onw hf') (hs2.onw hf'))
    have HD := Lib.hid (show R = (((a[i].k == l[i].k) && (ordV a[i].v l[i].v == 0)) && al2 samP (a.drop (i + 1)) (l.drop (i + 1))) from HQ.out.trans (al2_drop samP a l i hlt hlb))
    unfold vlv at HC
    clear hv hv' hs1 hs2 hy hy'
    generalize ordV a[i].v l[i].v = d at *
    generalize a[i].v = x at *
    generalize a[i].k = key at *
    generalize l[i].v = y at *
    generalize l[i].k = key' at *
    go_upto_region 6 with fail
    cases hr : ((bs key).toList == (bs key').toList) with
    | false =>
     have HZ := Lib.hid (show R = false by
      rw [bs_eq] at hr
      rw [HD.out, hr]; rfl)
     have hn : ((bs key).toList != (bs key').toList) = true := by rw [bne, hr]; rfl
     go_quiet (fail)
     clear hn hr
     go_wp2
     go_ret
     exact ⟨ret_bool HZ.out.symm, hf.out.trans (fuw_dr _ _)⟩
    | true =>
     have HE := Lib.hid (show R = ((d == 0) && al2 samP (a.drop (i + 1)) (l.drop (i + 1))) by
      rw [bs_eq] at hr
      rw [HD.out, hr]; rfl)
     have hn : ((bs key).toList != (bs key').toList) = false := by rw [bne, hr]; rfl
     have ff : Fuw wr wr.drew := Fuw.drew (Fuw.refl wr)
     go_region_held3 (fun w' => w'.cell? ⟨b, o + i * 6, none⟩ = some (.string (bs key)) ∧ w'.cell? ⟨b, o + i * 6 + 1, none⟩ = some (.int .i64 x.kd) ∧ w'.cell? ⟨b, o + i * 6 + 1 + 1, none⟩ = some (.int .i64 x.nn) ∧ w'.cell? ⟨b, o + i * 6 + 1 + 2, none⟩ = some (.int .i64 x.dd) ∧ w'.cell? ⟨b, o + i * 6 + 1 + 3, none⟩ = some (.string (bs x.ss)) ∧ w'.cell? ⟨b, o + i * 6 + 1 + 4, none⟩ = some (.slice a1 x.ll.length k1) ∧ w'.cell? ⟨b', o' + i * 6, none⟩ = some (.string (bs key')) ∧ w'.cell? ⟨b', o' + i * 6 + 1, none⟩ = some (.int .i64 y.kd) ∧ w'.cell? ⟨b', o' + i * 6 + 1 + 1, none⟩ = some (.int .i64 y.nn) ∧ w'.cell? ⟨b', o' + i * 6 + 1 + 2, none⟩ = some (.int .i64 y.dd) ∧ w'.cell? ⟨b', o' + i * 6 + 1 + 3, none⟩ = some (.string (bs y.ss)) ∧ w'.cell? ⟨b', o' + i * 6 + 1 + 4, none⟩ = some (.slice a2 y.ll.length k2))
      (first | exact ⟨cellOnw ff k0, cellOnw ff c0, cellOnw ff c1, cellOnw ff c2, cellOnw ff c3, cellOnw ff c4, cellOnw ff k0', cellOnw ff d0, cellOnw ff d1, cellOnw ff d2, cellOnw ff d3, cellOnw ff d4⟩)
      (first | (go_at_call 62; refine (HC.out _ ff).mono ?_; rintro e w4 ⟨rfl, f4⟩; replace ff := ff.trans f4))
     all_goals
      clear hn hr
      have HF := Lib.hid (hf.out.trans ff)
      clear ff
      by_cases hd : d = 0
      ·have HZ := Lib.hid (show R = al2 samP (a.drop (i + 1)) (l.drop (i + 1)) by rw [HE.out, hd]; rfl)
       subst hd
       go_wp2
       go_roundw
       case rel => exact ⟨i + 1, by go_num, by omega, HZ, HF⟩
       case measure => simp [RowKit.intOf]; omega
      ·have HZ := Lib.hid (show R = false by rw [HE.out, beq_eq_false_iff_ne.2 hd]; rfl)
       have hd' : (d != 0) = true := by rw [bne_iff_ne]; exact hd
       clear hd
       go_wp2
       go_ret
       exact ⟨ret_bool HZ.out.symm, HF.out⟩
   ·have HZ := Lib.hid (show R = true by rw [HQ.out, al2_end _ _ _ _ (by omega) (by have := HL.out; omega)])
    go_wp2
    go_ret
    exact ⟨ret_bool HZ.out.symm, hf.out⟩
 ·have HZ := Lib.hid (show R = false by rw [HR.out]; exact al2_len _ _ _ hl)
  have hq : ((a.length : Int) != (l.length : Int)) = true := by rw [bne_iff_ne]; omega
  clear hl
  go_enter Tryz.func66, Tryz.ntmps66
  go_wp2
  go_ret
  exact ⟨ret_bool HZ.out.symm, Fuw.refl _⟩
end Go.Proofs.YtpamdlkagmlahaaGreatDoor
namespace Go.Proofs.YtpamdlkagmlahaaGreatDoor
open Go.RowKit
def Kb (lo : Nat) (o : Option Nat) (w : World) (P : World → Prop) : Prop :=
 ∀ w2 : World, (∀ b, lo ≤ b → b < w.heap.size → some b ≠ o → w2.heap[b]? = w.heap[b]?) → P w2
section
variable {lo s : Nat} {o o' : Option Nat} {w w' : World} {P Q : World → Prop}
theorem Kb.now (h : Kb lo o w P) : P w := h w fun _ _ _ _ => rfl
theorem Kb.imp (h : Kb lo o w P) (hp : ∀ x, P x → Q x) : Kb lo o w Q := fun w2 h2 => hp _ (h w2 h2)
theorem Kb.and (h : Kb lo o w P) (k : Kb lo o w Q) : Kb lo o w (fun x => P x ∧ Q x) := fun w2 h2 => ⟨h w2 h2, k w2 h2⟩
theorem Kb.on (h : Kb lo o w P) (hs : w.heap.size ≤ w'.heap.size) (hb : ∀ b, lo ≤ b → b < w.heap.size → some b ≠ o → w'.heap[b]? = w.heap[b]?) (ho : o' = o ∨ ∀ k, o' = some k → w.heap.size ≤ k) : Kb lo o' w' P := by
 intro w2 h2
 refine h w2 fun b h1 hlt hne => ?_
 rw [h2 b h1 (Nat.lt_of_lt_of_le hlt hs) ?_, hb b h1 hlt hne]
 rcases ho with e | e
 ·rw [e]; exact hne
 ·intro q
  have := e b q.symm
  omega
theorem Kb.later (h : Kb lo o w P) (hf : Fuw w w') : Kb lo o w' P := h.on hf.size (fun b _ hb _ => Below.block hf b hb) (.inl rfl)
theorem Kb.low (h : Kb s none w P) (hl : lo ≤ s) (ho : ∀ k, o = some k → k < s ∨ w.heap.size ≤ k) : Kb lo o w P := by
 intro w2 h2
 refine h w2 fun b h1 hlt _ => h2 b (by omega) hlt ?_
 intro q
 rcases ho b q.symm with k | k <;> omega
theorem Kb.grown {v v' : Value} (h : Kb lo v.ownBlock w P) (hg : w.grownBy w' v.ownBlock) (hat : v'.ownBlock = v.ownBlock ∨ v'.ownBlock = some w.heap.size) : Kb lo v'.ownBlock w' P :=
 h.on hg.size (fun b _ h2 h3 => hg.block b h2 h3) (by
  rcases hat with e | e
  ·exact .inl e
  ·refine .inr fun k hk => ?_
   rw [e] at hk; injection hk with hk; omega)
end
def vC (x : Vl) (ao : Option Addr) (cap : Nat) : List Value := [.int .i64 x.kd, .int .i64 x.nn, .int .i64 x.dd, .string (bs x.ss), .slice ao x.ll.length cap]
abbrev VPm := Vl × Option Addr × Nat
def Nst (ps : List VPm) (w : World) : Prop := ∀ p ∈ ps, SlV w p.2.1 p.1.ll p.2.2
theorem Nst.nil (w : World) : Nst [] w := fun _ h => by cases h
theorem Nst.snoc {ps : List VPm} {p : VPm} {w : World} (h : Nst ps w) (k : SlV w p.2.1 p.1.ll p.2.2) : Nst (ps ++ [p]) w := fun q hq => by
 rcases List.mem_append.1 hq with e | e
 ·exact h q e
 ·rw [List.mem_singleton] at e; subst e; exact k
theorem own_heap {w w' : World} {base e size : Nat} {v : Value} {n : Nat} {xs : List Value} (h : w.ownsRow base e size v n xs) (hb : ∀ g, v.ownBlock = some g → w'.heap[g]? = w.heap[g]?) : w'.ownsRow base e size v n xs := by
 refine ⟨h.1, ?_⟩
 rcases h.2 with h0 | ⟨g, cap, cur, rfl, hg, hh, rest⟩
 ·exact .inl h0
 ·exact .inr ⟨g, cap, cur, rfl, hg, by rw [hb g rfl]; exact hh, rest⟩
theorem cell_lt' {w : World} {b o : Nat} {v : Value} (h : w.cell? ⟨b, o, none⟩ = some v) : b < w.heap.size := by
 rcases Nat.lt_or_ge b w.heap.size with k | k
 ·exact k
 ·simp [World.cell?, Array.getElem?_eq_none k] at h
end Go.Proofs.YtpamdlkagmlahaaGreatDoor

namespace Go.Proofs.YtpamdlkagmlahaaGreatDoor
open Go.RowKit
structure Lay (α β : Type) where
 size : Nat
 C : α → β → List Value
 I : α → Prop
 J : α → β → World → Prop
 P : World → α → Nat → Nat → Prop
 len : ∀ x m, (C x m).length = size
 pos : 0 < size
 row : ∀ w x m b o, I x → J x m w → (∀ j, j < size → w.cell? ⟨b, o + j, none⟩ = (C x m)[j]?) → P w x b o
section
variable {α β : Type} (Y : Lay α β)
def Lay.cs (ps : List (α × β)) : List Value := ps.flatMap fun p => Y.C p.1 p.2
theorem Lay.cs_app (a b : List (α × β)) : Y.cs (a ++ b) = Y.cs a ++ Y.cs b := by unfold Lay.cs; rw [List.flatMap_append]
theorem Lay.cs_one (p : α × β) : Y.cs [p] = Y.C p.1 p.2 := by unfold Lay.cs; simp
theorem Lay.cs_len : ∀ ps : List (α × β), (Y.cs ps).length = ps.length * Y.size
 | [] => by unfold Lay.cs; simp
 | p :: r => by
  show (Y.C p.1 p.2 ++ Y.cs r).length = _
  rw [List.length_append, Lay.cs_len r, List.length_cons, Y.len, Nat.add_mul, Nat.one_mul, Nat.add_comm]
theorem Lay.cs_get : ∀ (ps : List (α × β)) (i j : Nat) (h : i < ps.length), j < Y.size → (Y.cs ps)[i * Y.size + j]? = (Y.C ps[i].1 ps[i].2)[j]?
 | p :: r, 0, j, _, hj => by
  show (Y.C p.1 p.2 ++ Y.cs r)[0 * Y.size + j]? = _
  rw [Nat.zero_mul, Nat.zero_add, List.getElem?_append_left (by rw [Y.len]; exact hj)]
  rfl
 | p :: r, i + 1, j, h, hj => by
  show (Y.C p.1 p.2 ++ Y.cs r)[(i + 1) * Y.size + j]? = _
  have e : (i + 1) * Y.size + j = Y.size + (i * Y.size + j) := by rw [Nat.add_mul, Nat.one_mul]; omega
  rw [e, List.getElem?_append_right (by rw [Y.len]; omega), Y.len, Nat.add_sub_cancel_left, Lay.cs_get r i j (by simpa using h) hj]
  rfl
def Lay.Ns (ps : List (α × β)) (w : World) : Prop := ∀ p ∈ ps, Y.J p.1 p.2 w
variable {Y}
theorem Lay.sl_own {T : TypeId} {w : World} {base : Nat} {v : Value} {n : Nat} {ps : List (α × β)} (h : w.ownsRow base T Y.size v n (Y.cs ps)) (hv : ∀ p ∈ ps, Y.I p.1) (hn : Y.Ns ps w) :
  ∃ ao cap, v = .slice ao ps.length cap ∧ n = ps.length ∧ Sl Y.size Y.P w ao (ps.map Prod.fst) cap := by
 have hl := h.1
 rw [Y.cs_len] at hl
 obtain rfl : n = ps.length := (Nat.eq_of_mul_eq_mul_right Y.pos hl).symm
 rcases h.2 with ⟨rfl, h0⟩ | ⟨g, cap, cur, rfl, hb, hh, h1, h2, h3, h4⟩
 ·have e : ps = [] := List.eq_nil_of_length_eq_zero h0
  subst e
  exact ⟨none, 0, rfl, rfl, Sl.empty _⟩
 ·refine ⟨_, cap, rfl, rfl, by rw [List.length_map]; exact h1, h2, (fun k => by cases k), fun _ => ⟨g, 0, rfl, fun i hi => ?_⟩⟩
  rw [List.length_map] at hi
  rw [List.getElem_map]
  have hm : ps[i] ∈ ps := List.getElem_mem hi
  refine Y.row w _ _ g _ (hv _ hm) (hn _ hm) fun j hj => ?_
  have k := h.cellAt (i * Y.size + j) (by
   calc i * Y.size + j < i * Y.size + Y.size := by omega
    _ = (i + 1) * Y.size := by rw [Nat.add_mul, Nat.one_mul]
    _ ≤ ps.length * Y.size := Nat.mul_le_mul_right _ hi)
  rw [Y.cs_get ps i j hi hj] at k
  rwa [Nat.zero_add]
end
abbrev AC := Option Addr × Nat
def pC (p : Pp) (m : AC) : List Value := .string (bs p.k) :: vC p.v m.1 m.2
def LP : Lay Pp AC where
 size := 6
 C := pC
 I p := p.k.length ≤ maxLen ∧ Vin p.v
 J p m w := SlV w m.1 p.v.ll m.2
 P := PC
 len _ _ := rfl
 pos := by decide
 row w p m b o h1 h2 hc := ⟨h1.1, hc 0 (by decide), VC_mk h1.2 (hc 1 (by decide)) (hc 2 (by decide)) (hc 3 (by decide)) (hc 4 (by decide)) (hc 5 (by decide)) h2⟩
def LN : Lay Nd (AC × AC) where
 size := 3
 C n m := [.int .i64 n.id, .slice m.1.1 n.ls.length m.1.2, .slice m.2.1 n.ps.length m.2.2]
 I n := I64 n.id
 J n m w := SlS w m.1.1 n.ls m.1.2 ∧ SlP w m.2.1 n.ps m.2.2
 P := NC
 len _ _ := rfl
 pos := by decide
 row w n m b o h1 h2 hc := ⟨h1, hc 0 (by decide), ⟨_, _, hc 1 (by decide), h2.1⟩, _, _, hc 2 (by decide), h2.2⟩
def LE : Lay Ed AC where
 size := 5
 C e m := [.int .i64 e.id, .int .i64 e.fr, .int .i64 e.to, .string (bs e.ty), .slice m.1 e.ps.length m.2]
 I e := I64 e.id ∧ I64 e.fr ∧ I64 e.to ∧ e.ty.length ≤ maxLen
 J e m w := SlP w m.1 e.ps m.2
 P := EC
 len _ _ := rfl
 pos := by decide
 row w e m b o h1 h2 hc := ⟨h1.1, h1.2.1, h1.2.2.1, h1.2.2.2, hc 0 (by decide), hc 1 (by decide), hc 2 (by decide), hc 3 (by decide), _, _, hc 4 (by decide), h2⟩
end Go.Proofs.YtpamdlkagmlahaaGreatDoor
namespace Go.Proofs.YtpamdlkagmlahaaGreatDoor
open Go
def wrote (ops : Array Oper) (t : Nat) : Option Nat := (List.range ops.size).find? fun i => (ops[i]?).bind (·.dst) == some t
def hasIt (ops : Array Oper) (listed : Array Bool) (t : Nat) : Bool := match wrote ops t with | none => true | some i => listed.getD i false
def oneWriter (ops : Array Oper) (N : Nat) : Bool := (List.range ops.size).all fun i => match (ops[i]?).bind (·.dst) with | some d => decide (d < N) && (wrote ops d == some i) | none => true
theorem wrote_some {ops : Array Oper} {t i : Nat} (h : wrote ops t = some i) : i < ops.size ∧ (ops[i]?).bind (·.dst) = some t := by
 unfold wrote at h
 have h1 := List.find?_some h
 have h2 := List.mem_of_find?_eq_some h
 exact ⟨List.mem_range.1 h2, by simpa using h1⟩
structure Mid (ops : Array Oper) (N : Nat) (S : World → Prop) (U : Nat → World → Value → Prop) (listed : Array Bool) (a : Act) (w : World) : Prop where
 size : listed.size = ops.size
 tmps : a.tmps.size = N
 defers : a.defers = []
 st : S w
 val : ∀ t, t < N → hasIt ops listed t = true → U t w (a.tmps.getD t undef)
section
variable {P : Program} {ops : Array Oper} {Q : Exit → Act → World → Prop} {N : Nat} {S : World → Prop} {U : Nat → World → Value → Prop}
theorem Mid.put {listed : Array Bool} {a : Act} {w w' : World} {i d : Nat} {o : Oper} {v : Value} (h : Mid ops N S U listed a w) (h1 : oneWriter ops N = true) (ho : ops[i]? = some o) (hd : o.dst = some d)
  (hS : S w') (hm : ∀ t u, U t w u → U t w' u) (hv : U d w' v) : Mid ops N S U (listed.setIfInBounds i true) (a.put (some d) v) w' := by
 have hi : i < ops.size := (Array.getElem?_eq_some_iff.1 ho).1
 have h2 := List.all_eq_true.1 h1 i (List.mem_range.2 hi)
 have e0 : (ops[i]?).bind (·.dst) = some d := by rw [ho]; exact hd
 rw [e0] at h2
 have h3 : d < N ∧ wrote ops d = some i := by simpa using h2
 refine ⟨by simpa using h.size, by simpa [Act.put] using h.tmps, h.defers, hS, fun t ht hh => ?_⟩
 by_cases htd : t = d
 ·subst htd
  have hb : t < a.tmps.size := by rw [h.tmps]; exact ht
  simpa [Act.put, Array.getD_eq_getD_getElem?, hb] using hv
 ·have e1 : (a.put (some d) v).tmps.getD t undef = a.tmps.getD t undef := by
   simp [Act.put, Array.getD_eq_getD_getElem?, Ne.symm htd]
  rw [e1]
  refine hm t _ (h.val t ht ?_)
  unfold hasIt at hh ⊢
  cases hw : wrote ops t with
  | none => rfl
  | some j =>
   rw [hw] at hh
   simp only at hh ⊢
   have hji : i ≠ j := by
    rintro rfl
    have := (wrote_some hw).2
    rw [e0] at this
    exact htd (by injection this with k; exact k.symm)
   simpa [Array.getD_eq_getD_getElem?, Array.getElem?_setIfInBounds, hji] using hh
end
end Go.Proofs.YtpamdlkagmlahaaGreatDoor

namespace Go.Proofs.YtpamdlkagmlahaaGreatDoor
open Go
def depsB (ops : Array Oper) (i : Nat) : List Nat := match ops[i]? with | some o => (o.after.toList.filter fun e => Region.binds .any e).map (·.on) | none => []
def ancL (ops : Array Oper) : Nat → List Nat → List Nat
 | 0, l => l
 | n + 1, l => ancL ops n ((l ++ l.flatMap (depsB ops)).eraseDups)
def ClosedB (ops : Array Oper) (listed : Array Bool) : Prop := ∀ j, listed.getD j false = true → ∀ e ∈ depsB ops j, listed.getD e false = true
theorem anc_listed {ops : Array Oper} {listed : Array Bool} (hc : ClosedB ops listed) : ∀ (n : Nat) (l : List Nat), (∀ i ∈ l, listed.getD i false = true) → ∀ i ∈ ancL ops n l, listed.getD i false = true
 | 0, _, h => h
 | n + 1, l, h => anc_listed hc n _ (fun i hi => by
  rw [List.mem_eraseDups] at hi
  rcases List.mem_append.1 hi with e | e
  ·exact h i e
  ·obtain ⟨j, hj, he⟩ := List.mem_flatMap.1 e
   exact hc j (h j hj) i he)
theorem deps_ready {ops : Array Oper} {listed : Array Bool} {i : Nat} (hi : i ∈ Region.ready .any ops listed) : ∀ e ∈ depsB ops i, listed.getD e false = true := by
 intro e he
 obtain ⟨_, o, ho, hd⟩ := mem_ready.1 hi
 unfold depsB at he
 rw [ho] at he
 simp only [List.mem_map, List.mem_filter] at he
 obtain ⟨q, ⟨hq, hb⟩, rfl⟩ := he
 exact hd q (Array.mem_toList_iff.1 hq) hb
theorem ready_not {ops : Array Oper} {listed : Array Bool} {i : Nat} (hi : i ∈ Region.ready .any ops listed) : listed.getD i true = false := (mem_ready.1 hi).1
theorem getD_tf {listed : Array Bool} {i : Nat} (h : listed.getD i true = false) : listed.getD i false = false := by
 rcases Nat.lt_or_ge i listed.size with k | k
 ·rw [Array.getD_eq_getD_getElem?, Array.getElem?_eq_getElem k] at h ⊢; exact h
 ·rw [Array.getD_eq_getD_getElem?, Array.getElem?_eq_none k] at h; cases h
def isAnc (ops : Array Oper) (k i : Nat) : Bool := (ancL ops ops.size (depsB ops k)).contains i
theorem pre_false {ops : Array Oper} {listed : Array Bool} {k i : Nat} (hc : ClosedB ops listed) (ha : isAnc ops k i = true) (hi : i ∈ Region.ready .any ops listed) : listed.getD k false = false := by
 cases h : listed.getD k false
 ·rfl
 ·have := anc_listed hc ops.size (depsB ops k) (hc k h) i (List.contains_iff_mem.1 ha)
  rw [getD_tf (ready_not hi)] at this; cases this
def been (listed : Array Bool) : Nat → Bool := fun j => listed.getD j false
def upB (σ : Nat → Bool) (i : Nat) : Nat → Bool := fun j => if i = j then true else σ j
structure MidB (ops : Array Oper) (N : Nat) (S : (Nat → Bool) → World → Prop) (U : (Nat → Bool) → Nat → World → Value → Prop) (V : Nat → Value → Prop) (A : Nat → Value) (listed : Array Bool) (a : Act) (w : World) : Prop where
 size : listed.size = ops.size
 tmps : a.tmps.size = N
 defers : a.defers = []
 cl : ClosedB ops listed
 st : S (been listed) w
 val : ∀ t, t < N → hasIt ops listed t = true → U (been listed) t w (a.tmps.getD t undef)
 old : ∀ t j, wrote ops t = some j → listed.getD j false = false → V t (a.tmps.getD t undef)
 kp : ∀ t, wrote ops t = none → a.tmps.getD t undef = A t
def livB (ops : Array Oper) (i t : Nat) : Bool := match wrote ops t with | none => true | some j => decide (j ≠ i) && !isAnc ops j i
section
variable {P : Program} {ops : Array Oper} {Q : Exit → Act → World → Prop} {N : Nat} {S : (Nat → Bool) → World → Prop} {U : (Nat → Bool) → Nat → World → Value → Prop} {V : Nat → Value → Prop} {A : Nat → Value}
theorem getD_set {listed : Array Bool} {i j : Nat} (hi : i < listed.size) : (listed.setIfInBounds i true).getD j false = if i = j then true else listed.getD j false := by
 by_cases h : i = j
 ·subst h; simp [Array.getD_eq_getD_getElem?, hi]
 ·simp [Array.getD_eq_getD_getElem?, h]
theorem MidB.put {listed : Array Bool} {a : Act} {w w' : World} {i : Nat} {o : Oper} {v : Value} (h : MidB ops N S U V A listed a w) (h1 : oneWriter ops N = true) (ho : ops[i]? = some o) (hi : i ∈ Region.ready .any ops listed)
  (hS : S (upB (been listed) i) w') (hm : ∀ t u, livB ops i t = true → U (been listed) t w u → U (upB (been listed) i) t w' u) (hv : ∀ d, o.dst = some d → U (upB (been listed) i) d w' v) : MidB ops N S U V A (listed.setIfInBounds i true) (a.put o.dst v) w' := by
 have his : i < ops.size := (Array.getElem?_eq_some_iff.1 ho).1
 have hil : i < listed.size := by rw [h.size]; exact his
 have h2 := List.all_eq_true.1 h1 i (List.mem_range.2 his)
 have hbn : been (listed.setIfInBounds i true) = upB (been listed) i := by
  funext j
  unfold been upB
  rw [getD_set hil]
 refine ⟨by simpa using h.size, ?_, ?_, fun j hj e he => ?_, ?_, fun t ht hh => ?_, fun t j hw hj => ?_, fun t hw => ?_⟩
 ·have := h.tmps
  unfold Act.put
  split <;> simpa using this
 ·have := h.defers
  unfold Act.put
  split <;> simpa using this
 ·rw [getD_set hil] at hj ⊢
  split
  ·rfl
  ·rename_i hne
   by_cases hij : i = j
   ·subst hij; exact deps_ready hi e he
   ·rw [if_neg hij] at hj; exact h.cl j hj e he
 ·rw [hbn]; exact hS
 ·rw [hbn]
  by_cases htd : o.dst = some t
  ·have hbt : t < a.tmps.size := by rw [h.tmps]; exact ht
   have e1 : (a.put o.dst v).tmps.getD t undef = v := by simp [htd, Act.put, Array.getD_eq_getD_getElem?, hbt]
   rw [e1]; exact hv t htd
  ·have e1 : (a.put o.dst v).tmps.getD t undef = a.tmps.getD t undef := by
    cases hd : o.dst with
    | none => rfl
    | some d =>
     have : d ≠ t := by rintro rfl; exact htd hd
     simp [Act.put, Array.getD_eq_getD_getElem?, this]
   rw [e1]
   have hlv : hasIt ops listed t = true → livB ops i t = true := fun q => by
    unfold hasIt at q
    unfold livB
    cases hw : wrote ops t with
    | none => rfl
    | some j =>
     rw [hw] at q
     simp only at q ⊢
     have hji : j ≠ i := by
      rintro rfl
      rw [getD_tf (ready_not hi)] at q; cases q
     rw [decide_eq_true hji, Bool.true_and]
     cases hq : isAnc ops j i
     ·rfl
     ·rw [pre_false h.cl hq hi] at q; cases q
   have hit : hasIt ops listed t = true := ?_
   exact hm t _ (hlv hit) (h.val t ht hit)
   unfold hasIt at hh ⊢
   cases hw : wrote ops t with
   | none => rfl
   | some j =>
    rw [hw] at hh
    simp only at hh ⊢
    rw [getD_set hil] at hh
    by_cases hij : i = j
    ·subst hij
     have := (wrote_some hw).2
     rw [ho] at this
     exact absurd this htd
    ·rw [if_neg hij] at hh; exact hh
 ·rw [getD_set hil] at hj
  by_cases hij : i = j
  ·rw [if_pos hij] at hj; cases hj
  ·rw [if_neg hij] at hj
   have e1 : (a.put o.dst v).tmps.getD t undef = a.tmps.getD t undef := by
    cases hd : o.dst with
    | none => rfl
    | some d =>
     have : d ≠ t := by
      rintro rfl
      have e0 : (ops[i]?).bind (·.dst) = some d := by rw [ho]; exact hd
      rw [e0] at h2
      have h3 : d < N ∧ wrote ops d = some i := by simpa using h2
      rw [h3.2] at hw
      injection hw with q
      exact hij q
     simp [Act.put, Array.getD_eq_getD_getElem?, this]
   rw [e1]
   exact h.old t j hw hj
 ·have e1 : (a.put o.dst v).tmps.getD t undef = a.tmps.getD t undef := by
   cases hd : o.dst with
   | none => rfl
   | some d =>
    have : d ≠ t := by
     rintro rfl
     have e0 : (ops[i]?).bind (·.dst) = some d := by rw [ho]; exact hd
     rw [e0] at h2
     have h3 : d < N ∧ wrote ops d = some i := by simpa using h2
     rw [h3.2] at hw
     cases hw
    simp [Act.put, Array.getD_eq_getD_getElem?, this]
  rw [e1]
  exact h.kp t hw
end
end Go.Proofs.YtpamdlkagmlahaaGreatDoor
namespace Go.Proofs.YtpamdlkagmlahaaGreatDoor
open Go
section
variable {P : Program} {ops : Array Oper} {Q : Exit → Act → World → Prop} (w : World)
end
end Go.Proofs.YtpamdlkagmlahaaGreatDoor

namespace Go.Proofs.YtpamdlkagmlahaaGreatDoor
open Go.RowKit
theorem Bk.grow {w w' : World} {B : Nat} {cs : Array Value} {t : TypeId} {row : Option Nat} (h : Bk w B cs t) (hg : w.grownBy w' row) (hne : some B ≠ row) : Bk w' B cs t := (hg.block B h.lt hne).trans h
section
variable {P : Program} {ops : Array Oper} {Q : Exit → Act → World → Prop} (w : World)
end
theorem heap_far {w : World} {B b j : Nat} {v : Value} (h : B ≠ b) : (w.setCell ⟨B, j, none⟩ v).heap[b]? = w.heap[b]? := by
 simp [World.setCell, Array.getElem?_modify, h]
def NodeIn (n : Nd) (m : AC × AC) (lo : Nat) (w : World) : Prop := SlS w m.1.1 n.ls m.1.2 ∧ SlP w m.2.1 n.ps m.2.2 ∧ w.ownsRow lo 9 1 (.slice m.1.1 n.ls.length m.1.2) n.ls.length (sC n.ls)
abbrev NMe := (AC × AC) × Nat × Nat
def LNi : Lay Nd NMe where
 size := 3
 C n m := [.int .i64 n.id, .slice m.1.1.1 n.ls.length m.1.1.2, .slice m.1.2.1 n.ps.length m.1.2.2]
 I n := I64 n.id
 J n m w := ∀ w2 : World, (∀ b, m.2.1 ≤ b → b < m.2.2 → w2.heap[b]? = w.heap[b]?) → NodeIn n m.1 m.2.1 w2
 P := NC
 len _ _ := rfl
 pos := by decide
 row w n m b o h1 h2 hc := by
  obtain ⟨k1, k2, -⟩ := h2 w fun _ _ _ => rfl
  exact ⟨h1, hc 0 (by decide), ⟨_, _, hc 1 (by decide), k1⟩, _, _, hc 2 (by decide), k2⟩
theorem LNi.on {n : Nd} {m : NMe} {w w' : World} (h : LNi.J n m w) (hb : ∀ b, m.2.1 ≤ b → b < m.2.2 → w'.heap[b]? = w.heap[b]?) : LNi.J n m w' := fun w2 h2 => h w2 fun b h1 h3 => (h2 b h1 h3).trans (hb b h1 h3)
end Go.Proofs.YtpamdlkagmlahaaGreatDoor
namespace Go.Proofs.YtpamdlkagmlahaaGreatDoor
open Go.RowKit
structure CRow (size : Nat) (w : World) (ao : Option Addr) (us : List (List Value)) : Prop where
 len : us.length ≤ 9223372036854775807
 sz : ∀ (i : Nat) (h : i < us.length), us[i].length = size
 at_ : 0 < us.length → ∃ b o, ao = some ⟨b, o, none⟩ ∧ ∀ (i : Nat) (h : i < us.length) (j : Nat), j < size → w.cell? ⟨b, o + i * size + j, none⟩ = us[i][j]?
theorem CRow.on {size : Nat} {w w' : World} {ao : Option Addr} {us : List (List Value)} (h : CRow size w ao us) (hf : Fuw w w') : CRow size w' ao us :=
 ⟨h.len, h.sz, fun hp => by
  obtain ⟨b, o, e, hc⟩ := h.at_ hp
  refine ⟨b, o, e, fun i hi j hj => ?_⟩
  have k := hc i hi j hj
  rw [List.getElem?_eq_getElem (by rw [h.sz i hi]; exact hj)] at k ⊢
  exact cellOnw hf k⟩
end Go.Proofs.YtpamdlkagmlahaaGreatDoor

namespace Go.Proofs.YtpamdlkagmlahaaGreatDoor
open Go.RowKit
theorem bl_irr (a : List UInt8) : Op.bytesLess a a = false := by
 rcases str_less' a a with ⟨-, h1, h2, -⟩ | ⟨-, h1, -, -⟩ | ⟨-, h1, -, -⟩
 ·rw [h1] at h2; cases h2
 ·exact h1
 ·exact h1
theorem bl_tri {a b : List UInt8} (h : Op.bytesLess a b = false) (h' : Op.bytesLess b a = false) : a = b := by
 rcases str_less' a b with ⟨-, h1, -, -⟩ | ⟨-, -, -, h3⟩ | ⟨-, -, h2, -⟩
 ·rw [h1] at h; cases h
 ·simpa using h3
 ·rw [h2] at h'; cases h'
theorem bl_eq (x y : List UInt8) : Op.bytesLess x y = decide (x < y) := by
 induction x generalizing y with
 | nil => cases y <;> simp [Op.bytesLess]
 | cons a r ih =>
  cases y with
  | nil => simp [Op.bytesLess]
  | cons b t =>
   show (decide (a < b) || a == b && Op.bytesLess r t) = _
   rw [ih, Bool.eq_iff_iff]
   simp [List.cons_lt_cons_iff]
theorem bl_trans {a b c : List UInt8} (h : Op.bytesLess a b = true) (h' : Op.bytesLess b c = true) : Op.bytesLess a c = true := by
 rw [bl_eq] at h h' ⊢
 exact decide_eq_true (List.lt_trans (of_decide_eq_true h) (of_decide_eq_true h'))
def atS : List (List UInt8) → List UInt8 → Nat
 | [], _ => 0
 | x :: r, s => if Op.bytesLess x s = true then atS r s + 1 else 0
def putS (l : List (List UInt8)) (s : List UInt8) : List (List UInt8) := l.take (atS l s) ++ (if l[atS l s]? = some s then [] else [s]) ++ l.drop (atS l s)
theorem at_cons (x : List UInt8) (r : List (List UInt8)) (s : List UInt8) : atS (x :: r) s = if Op.bytesLess x s = true then atS r s + 1 else 0 := rfl
theorem put_cons (x : List UInt8) (r : List (List UInt8)) (s : List UInt8) : putS (x :: r) s = if Op.bytesLess x s = true then x :: putS r s else if x = s then x :: r else s :: x :: r := by
 unfold putS
 rw [at_cons]
 by_cases h : Op.bytesLess x s = true
 ·rw [if_pos h, if_pos h]
  simp
 ·rw [if_neg h, if_neg h]
  by_cases e : x = s
  ·simp [e]
  ·simp [e]
theorem put_mem (s t : List UInt8) : ∀ l : List (List UInt8), t ∈ putS l s ↔ t = s ∨ t ∈ l
 | [] => by simp [putS, atS]
 | x :: r => by
  rw [put_cons]
  by_cases h : Op.bytesLess x s = true
  ·rw [if_pos h, List.mem_cons, put_mem s t r, List.mem_cons]
   constructor
   ·rintro (h | h | h)
    ·exact .inr (.inl h)
    ·exact .inl h
    ·exact .inr (.inr h)
   ·rintro (h | h | h)
    ·exact .inr (.inl h)
    ·exact .inl h
    ·exact .inr (.inr h)
  ·rw [if_neg h]
   by_cases e : x = s
   ·rw [if_pos e]
    constructor
    ·exact .inr
    ·rintro (h | h)
     ·rw [h, ← e]; exact List.mem_cons_self
     ·exact h
   ·rw [if_neg e]; exact List.mem_cons
theorem put_inc (s : List UInt8) : ∀ l : List (List UInt8), incS l → incS (putS l s)
 | [], _ => List.pairwise_singleton _ _
 | x :: r, h => by
  have h' := List.pairwise_cons.1 h
  rw [put_cons]
  by_cases k : Op.bytesLess x s = true
  ·rw [if_pos k]
   refine List.pairwise_cons.2 ⟨fun t ht => ?_, put_inc s r h'.2⟩
   rcases (put_mem s t r).1 ht with rfl | ht
   ·exact k
   ·exact h'.1 t ht
  ·rw [if_neg k]
   by_cases e : x = s
   ·rw [if_pos e]; exact h
   ·rw [if_neg e]
    have k1 : Op.bytesLess s x = true := by
     cases e2 : Op.bytesLess s x with
     | true => rfl
     | false => exact absurd (bl_tri (by simpa using k) e2) e
    refine List.pairwise_cons.2 ⟨fun t ht => ?_, h⟩
    rcases List.mem_cons.1 ht with rfl | ht
    ·exact k1
    ·exact bl_trans k1 (h'.1 t ht)
theorem at_le : ∀ (l : List (List UInt8)) (s : List UInt8), atS l s ≤ l.length
 | [], _ => Nat.le_refl _
 | x :: r, s => by
  rw [at_cons]
  by_cases h : Op.bytesLess x s = true
  ·rw [if_pos h]; have := at_le r s; simp; omega
  ·rw [if_neg h]; omega
theorem at_step : ∀ (l : List (List UInt8)) (s : List UInt8) (i : Nat) (h : i < l.length), i ≤ atS l s → (Op.bytesLess l[i] s = true → i + 1 ≤ atS l s) ∧ (Op.bytesLess l[i] s = false → i = atS l s)
 | x :: r, s, 0, _, _ => by
  rw [at_cons]
  constructor
  ·intro (h : Op.bytesLess x s = true)
   rw [if_pos h]; omega
  ·intro (h : Op.bytesLess x s = false)
   rw [if_neg (by rw [h]; decide)]
 | x :: r, s, i + 1, h, hi => by
  rw [at_cons] at *
  by_cases k : Op.bytesLess x s = true
  ·rw [if_pos k] at *
   have ih := at_step r s i (by simpa using h) (by omega)
   refine ⟨fun q => ?_, fun q => ?_⟩
   ·have := ih.1 q; omega
   ·have := ih.2 q; omega
  ·rw [if_neg k] at hi; omega
end Go.Proofs.YtpamdlkagmlahaaGreatDoor
