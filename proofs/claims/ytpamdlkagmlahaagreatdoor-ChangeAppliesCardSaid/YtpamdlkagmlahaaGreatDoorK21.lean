/-
  ChT; ChU; ChV; ChW; GrIr: texts of one kind in one file; each part says what it holds.
-/
import Derived.Test.YtpamdlkagmlahaaGreatDoorK20
import Derived.Test.YtpamdlkagmlahaaGreatDoorK05

namespace Go.Proofs.YtpamdlkagmlahaaGreatDoor
open Go.RowKit
theorem nan1_any (s : ByteArray) (w : World) : Calls Tryz.prog 190 #[.string s] w (PureB w false) := by
 have es : (s.toList == s.toList) = true := beq_self_eq_true _
 have en : (s.toList != s.toList) = false := by simp
 go_enter Tryz.func190, Tryz.ntmps190
 go_wp2
 go_ret
 exact ⟨rfl, rfl⟩
theorem nan2_any (s : ByteArray) (w : World) : Calls Tryz.prog 201 #[.string s] w (PureB w false) := by
 have es : (s.toList == s.toList) = true := beq_self_eq_true _
 have en : (s.toList != s.toList) = false := by simp
 go_enter Tryz.func201, Tryz.ntmps201
 go_wp2
 go_ret
 exact ⟨rfl, rfl⟩
theorem less_any (a b : List UInt8) (w : World) : Calls Tryz.prog 200 #[.string (bs a), .string (bs b)] w (PureB w (Op.bytesLess a b)) := by
 have e1 : Op.bytesLess (bs a).toList (bs b).toList = Op.bytesLess a b := by rw [ByteArray.toList_eq, ByteArray.toList_eq, bs_data, bs_data]
 obtain ⟨q, hq⟩ : ∃ q, q = Op.bytesLess a b := ⟨_, rfl⟩
 rw [← hq] at e1 ⊢
 clear hq
 go_enter Tryz.func200, Tryz.ntmps200
 go_wp2_with (go_at_call 190; refine (nan1_any _ _).mono ?_; rintro e w' ⟨rfl, rfl⟩)
 go_ret
 exact ⟨rfl, rfl⟩
theorem strc_cases (a b : List UInt8) : (strc a b < 0 ↔ Op.bytesLess a b = true) ∧ (strc a b = 0 ↔ a = b) := by
 rcases str_less' a b with ⟨e, g1, g2, g3⟩ | ⟨e, g1, g2, g3⟩ | ⟨e, g1, g2, g3⟩
 ·rw [e, g1]
  exact ⟨by simp, by simp at g3 ⊢; exact g3⟩
 ·rw [e, g1]
  exact ⟨by simp, by simp at g3 ⊢; exact g3⟩
 ·rw [e, g1]
  exact ⟨by simp, by simp at g3 ⊢; exact g3⟩
theorem posC_str : ∀ (l : List (List UInt8)) (s : List UInt8), posC (l.map fun n => strc n s) = atS l s
 | [], _ => rfl
 | n :: r, s => by
  show (if strc n s < 0 then posC (r.map fun n => strc n s) + 1 else 0) = if Op.bytesLess n s = true then atS r s + 1 else 0
  rw [posC_str r s]
  by_cases h : Op.bytesLess n s = true
  ·rw [if_pos h, if_pos ((strc_cases n s).1.2 h)]
  ·rw [if_neg h, if_neg (fun k => h ((strc_cases n s).1.1 k))]
theorem monC_str {l : List (List UInt8)} {s : List UInt8} (h : incS l) : MonC (l.map fun n => strc n s) := by
 intro i j hi hj hij hk
 rw [List.length_map] at hi hj
 rw [List.getElem_map] at *
 have h1 : Op.bytesLess l[i] l[j] = true := List.pairwise_iff_getElem.1 h i j hi hj hij
 rcases Int.lt_or_le 0 (strc l[j] s) with k | k
 ·exact k
 ·exfalso
  have hlt : Op.bytesLess l[i] s = true := by
   rcases Int.lt_or_eq_of_le k with g | g
   ·exact bl_trans h1 ((strc_cases _ _).1.1 g)
   ·rw [← (strc_cases _ _).2.1 g]; exact h1
  have := (strc_cases l[i] s).1.2 hlt
  omega
theorem atS_spec {l : List (List UInt8)} {s : List UInt8} (h : incS l) (hs : s ∈ l) : l[atS l s]? = some s := by
 induction l with
 | nil => cases hs
 | cons y r ih =>
  have h' := List.pairwise_cons.1 h
  rw [at_cons]
  by_cases g : Op.bytesLess y s = true
  ·rw [if_pos g]
   rcases List.mem_cons.1 hs with e | e
   ·rw [e, bl_irr] at g; cases g
   ·exact ih h'.2 e
  ·rw [if_neg g]
   rcases List.mem_cons.1 hs with e | e
   ·rw [e]; rfl
   ·exact absurd (h'.1 s e) g
theorem fnd_str {l : List (List UInt8)} {s : List UInt8} (h : incS l) : fndC (l.map fun n => strc n s) = hasS l s := by
 unfold fndC hasS
 rw [posC_str, List.getElem?_map, Bool.eq_iff_iff, decide_eq_true_iff, List.any_eq_true]
 constructor
 ·intro e
  cases hg : l[atS l s]? with
  | none => rw [hg] at e; cases e
  | some n =>
   rw [hg] at e
   have e' : strc n s = 0 := by simpa using e
   exact ⟨n, List.mem_of_getElem? hg, by simpa using (strc_cases n s).2.1 e'⟩
 ·rintro ⟨n, hn, e⟩
  have e' : n = s := by simpa using e
  subst e'
  rw [atS_spec h hn]
  exact congrArg some ((strc_cases n n).2.2 rfl)
theorem fnd_key {ps : List Pp} {s : List UInt8} (h : incS (keysV ps)) : fndC (ps.map fun n => strc n.k s) = hasK ps s ∧ posC (ps.map fun n => strc n.k s) = atS (keysV ps) s := by
 have e : (ps.map fun n => strc n.k s) = (keysV ps).map fun n => strc n s := by unfold keysV; rw [List.map_map]; rfl
 rw [e]
 exact ⟨fnd_str h, posC_str _ _⟩
theorem mon_key {ps : List Pp} {s : List UInt8} (h : incS (keysV ps)) : MonC (ps.map fun n => strc n.k s) := by
 have e : (ps.map fun n => strc n.k s) = (keysV ps).map fun n => strc n s := by unfold keysV; rw [List.map_map]; rfl
 rw [e]
 exact monC_str h
set_option maxHeartbeats 3200000 in
set_option maxRecDepth 100000 in
theorem bss_any (ls : List (List UInt8)) (ao : Option Addr) (cap : Nat) (s : List UInt8) (w : World) (hs : SlS w ao ls cap) (hp : incS ls) (hn : ls.length ≤ 5000) :
  Calls Tryz.prog 167 #[.slice ao ls.length cap, .string (bs s)] w (RetFi w (atS ls s) (hasS ls s)) := by
 have HS := Lib.hid hs
 obtain ⟨cs, hcs⟩ : ∃ cs, cs = ls.map fun n => strc n s := ⟨_, rfl⟩
 have HP := Lib.hid (show MonC cs by rw [hcs]; exact monC_str hp)
 have hcl : cs.length = ls.length := by rw [hcs, List.length_map]
 have HG := Lib.hid (show ∀ (k : Nat) (h : k < ls.length) (h' : k < cs.length), cs[k] = strc ls[k] s from fun k h h' => by simp only [hcs, List.getElem_map])
 have HPO := Lib.hid (show posC cs = atS ls s by rw [hcs]; exact posC_str _ _)
 have HFN := Lib.hid (show fndC cs = hasS ls s by rw [hcs]; exact fnd_str hp)
 clear hcs
 have HB := Lib.hid (show BsC cs 0 ls.length from ⟨Nat.zero_le _, by omega, fun k _ h => absurd h (by omega), fun k h h' => absurd h (by omega)⟩)
 have HL := Lib.hid hcl
 clear hs hp hcl
 generalize hasS ls s = R at *
 go_enter Tryz.func167, Tryz.ntmps167
 go_wp2
 go_loop [7, 8] (fun iv jv => ∃ i j : Nat, iv = .int .i64 i ∧ jv = .int .i64 j ∧ i ≤ j ∧ j ≤ ls.length ∧ Hid (BsC cs i j)) (fun iv jv => (RowKit.intOf jv).toNat - (RowKit.intOf iv).toNat)
 case atStart => exact ⟨0, ls.length, rfl, rfl, Nat.zero_le _, Nat.le_refl _, HB⟩
 case round =>
  obtain ⟨i, j, rfl, rfl, hij, hj, HI⟩ := hrel
  by_cases hlt : i < j
  ·have hm : (i + j) / 2 < ls.length := by omega
   obtain ⟨b, o, rfl, -, c0⟩ := HS.out.get hm
   rw [Nat.mul_one] at c0
   have HM := Lib.hid (bsC_mid HP.out HI.out hlt (by rw [HL.out]; exact hm))
   have HGM := Lib.hid (HG.out _ hm (by rw [HL.out]; exact hm))
   have hh : ((i : Int) + (j : Int)) / 2 = ((i + j) / 2 : Nat) := by omega
   have h1 : i ≤ (i + j) / 2 := by omega
   have h2 : (i + j) / 2 < j := by omega
   rw [HGM.out] at HM
   clear HGM
   have HC := Lib.hid (less_any ls[(i + j) / 2] s w)
   have HQ := Lib.hid (strc_cases ls[(i + j) / 2] s).1
   generalize ls[(i + j) / 2] = n at *
   generalize (i + j) / 2 = m at *
   generalize strc n s = q at *
   generalize Op.bytesLess n s = t at *
   go_wp2_with fail
   go_at_call 200; refine HC.out.mono ?_; rintro e1 w1 ⟨rfl, rfl⟩
   clear hh
   cases t with
   | true =>
    have HZ := Lib.hid (HM.out.1 (HQ.out.2 (by first | rfl | trivial)))
    go_wp2
    go_round
    case rel => exact ⟨m + 1, j, by go_num, rfl, by omega, hj, HZ⟩
    case measure => simp [RowKit.intOf]; omega
   | false =>
    have HZ := Lib.hid (HM.out.2 (by
     rcases Int.lt_or_le q 0 with k | k
     ·have := HQ.out.1 k; simp at this
     ·exact k))
    go_wp2
    go_round
    case rel => exact ⟨i, m, rfl, rfl, h1, by omega, HZ⟩
    case measure => simp [RowKit.intOf]; omega
  ·obtain rfl : i = j := by omega
   have HE := Lib.hid (bsC_end HI.out)
   by_cases hi : i < ls.length
   ·have HE2 := Lib.hid (show (ls[i] = s → fndC cs = true) ∧ (¬ ls[i] = s → fndC cs = false) by
     rw [fnd_in HE.out (by rw [HL.out]; exact hi), HG.out i hi]
     exact ⟨fun h => decide_eq_true ((strc_cases _ _).2.2 h), fun h => decide_eq_false fun k => h ((strc_cases _ _).2.1 k)⟩)
    obtain ⟨b, o, rfl, -, c0⟩ := HS.out.get hi
    rw [Nat.mul_one] at c0
    have hbe := bs_eq ls[i] s
    have hbn : ((bs ls[i]).toList != (bs s).toList) = !(ls[i] == s) := by rw [bne, hbe]
    have HQ := Lib.hid (show (ls[i] == s) = true ↔ ls[i] = s from beq_iff_eq)
    generalize ls[i] = n at *
    generalize (n == s) = t at *
    cases t with
    | true =>
     have HT := Lib.hid (show R = true from HFN.out.symm.trans (HE2.out.1 (HQ.out.1 (by first | rfl | trivial))))
     go_wp2
     go_ret2
     exact ⟨(by rw [HT.out, ← HPO.out, HE.out]; rfl), Fuw.refl _⟩
    | false =>
     have HT := Lib.hid (show R = false from HFN.out.symm.trans (HE2.out.2 (fun k => by have := HQ.out.2 k; simp at this)))
     go_wp2_with (go_at_call 201; refine (nan2_any _ _).mono ?_; rintro e w' ⟨rfl, rfl⟩)
     go_ret2
     exact ⟨(by rw [HT.out, ← HPO.out, HE.out]; rfl), Fuw.refl _⟩
   ·have HT := Lib.hid (show R = false from HFN.out.symm.trans (fnd_out HE.out (by rw [HL.out]; omega)))
    go_wp2
    go_ret2
    exact ⟨(by rw [HT.out, ← HPO.out, HE.out]; rfl), Fuw.refl _⟩
end Go.Proofs.YtpamdlkagmlahaaGreatDoor

namespace Go.Proofs.YtpamdlkagmlahaaGreatDoor
open Go.RowKit
theorem rowC_own {w : World} {base g n cap j : Nat} {e : TypeId} {s : Nat} {xs : List Value} (h : w.ownsRow base e s (.slice (some ⟨g, 0, none⟩) n cap) n xs) (hj : j < n * s) {u : Value} (hu : xs[j]? = some u) : w.cell? ⟨g, j, none⟩ = some u ∧ w.frozen? ⟨g, j, none⟩ = false := by
 obtain ⟨cur, hg, hb, hnc, hcm, hcl, htk, hxl⟩ := own_row h
 have hns : n * s ≤ cur.length := by rw [hcl]; exact Nat.mul_le_mul_right _ hnc
 refine ⟨?_, row_froz hg _⟩
 rw [← htk, List.getElem?_take_of_lt hj, List.getElem?_eq_getElem (by omega)] at hu
 rw [row_cell hg (by omega)]
 exact hu
section
variable {w0 w w1 : World} {base B g cap p : Nat} {G : Gp}
theorem GBox.hb (h : GBox w0 w base B G) : base ≤ w.heap.size := Nat.le_trans h.hi (Nat.le_of_lt h.box.lt)
theorem GBox.fuB (h : GBox w0 w base B G) {r : Option Nat} (hg : w.grownBy w1 r) (hr : ∀ k, r = some k → base ≤ k) : Fuw w0 w1 := h.own.fu.trans_below (below_grown hg h.hb hr) h.own.lo
theorem GBox.setL (h : GBox w0 w base B G) (hp : p < G.ns.length) (hv : G.vn = .slice (some ⟨g, 0, none⟩) G.ns.length cap) {v : Value} {ls : List (List UInt8)}
  (ho : (rowL v ls).Own w1 base) (hg : w.grownBy w1 G.ns[p].vl.ownBlock) (hat : v.ownBlock = G.ns[p].vl.ownBlock ∨ ∀ k, v.ownBlock = some k → w.heap.size ≤ k) (hl : ∀ s ∈ ls, s.length ≤ maxLen) :
  w1.cell? ⟨g, p * 3 + 1, none⟩ = some G.ns[p].vl ∧ w1.frozen? ⟨g, p * 3 + 1, none⟩ = false ∧ Below base w1 (w1.setCell ⟨g, p * 3 + 1, none⟩ v) ∧ GBox w0 (w1.setCell ⟨g, p * 3 + 1, none⟩ v) base B { G with ns := G.ns.set p { G.ns[p] with ls := ls, vl := v } } := by
 have hm := List.getElem_mem hp
 have hrow := h.own.lrow hm
 have hbk : ∀ k, G.ns[p].vl.ownBlock = some k → base ≤ k := fun k e => (hrow.lt k e).1
 have hBl : ∀ k, G.ns[p].vl.ownBlock = some k → k ≠ B := fun k e e' => h.far (by rw [← e']; exact blks_mem.2 ⟨_, List.mem_cons_of_mem _ (List.mem_cons_of_mem _ (mem_rowsN hm (List.mem_cons_self ..))), e⟩)
 have hf := h.fuB hg hbk
 have hR := Rows.turn (h.own.rows.perm (canonN hp)) hg ho hat
 have hN : (rowN G.vn G.ns).Own w1 base := hR.own _ (List.mem_cons_of_mem _ (List.mem_cons_of_mem _ (List.mem_cons_self ..)))
 unfold rowN Rw.Own at hN
 simp only [hv] at hN
 have hj : p * 3 + 1 < G.ns.length * 3 := by omega
 obtain ⟨c1, c2⟩ := rowC_own hN hj (u := G.ns[p].vl) (by rw [csN_get G.ns p 1 hp (by omega)]; rfl)
 obtain ⟨k1, k2⟩ := GOwn.setL h.own hp hv ho hg hat hl hf
 have hgb : base ≤ g := by
  have := h.own.nrow.lt g (by show G.vn.ownBlock = some g; rw [hv]; rfl)
  exact this.1
 have hBg : B ≠ g := fun e => h.far (blks_mem.2 ⟨rowN G.vn G.ns, List.mem_cons_self .., by unfold rowN; rw [hv, e]; rfl⟩)
 refine ⟨c1, c2, Below.setCell (Below.refl _ _) hgb _, k1, ?_, ?_, h.hi⟩
 ·exact (h.box.grow hg (fun e => hBl B e.symm rfl)).far hBg _
 ·intro hB
  rcases k2 B hB with e | e
  ·rcases hat with q | q
   ·exact hBl B (q.symm.trans e) rfl
   ·have := q B e
    have := h.box.lt
    omega
  ·exact h.far e
theorem GBox.setP (h : GBox w0 w base B G) (hp : p < G.ns.length) (hv : G.vn = .slice (some ⟨g, 0, none⟩) G.ns.length cap) {v : Value} {pm : List (Pp × AC)}
  (ho : (rowP v pm).Own w1 base) (hg : w.grownBy w1 G.ns[p].vp.ownBlock) (hat : v.ownBlock = G.ns[p].vp.ownBlock ∨ ∀ k, v.ownBlock = some k → w.heap.size ≤ k) (hl : PmOk w0 pm) :
  w1.cell? ⟨g, p * 3 + 2, none⟩ = some G.ns[p].vp ∧ w1.frozen? ⟨g, p * 3 + 2, none⟩ = false ∧ Below base w1 (w1.setCell ⟨g, p * 3 + 2, none⟩ v) ∧ GBox w0 (w1.setCell ⟨g, p * 3 + 2, none⟩ v) base B { G with ns := G.ns.set p { G.ns[p] with pm := pm, vp := v } } := by
 have hm := List.getElem_mem hp
 have hrow := h.own.prow hm
 have hbk : ∀ k, G.ns[p].vp.ownBlock = some k → base ≤ k := fun k e => (hrow.lt k e).1
 have hBl : ∀ k, G.ns[p].vp.ownBlock = some k → k ≠ B := fun k e e' => h.far (by rw [← e']; exact blks_mem.2 ⟨_, List.mem_cons_of_mem _ (List.mem_cons_of_mem _ (mem_rowsN hm (List.mem_cons_of_mem _ (List.mem_cons_self ..)))), e⟩)
 have hf := h.fuB hg hbk
 have hR := Rows.turn ((h.own.rows.perm (canonN hp)).perm (List.Perm.swap _ _ _)) hg ho hat
 have hN : (rowN G.vn G.ns).Own w1 base := hR.own _ (List.mem_cons_of_mem _ (List.mem_cons_of_mem _ (List.mem_cons_self ..)))
 unfold rowN Rw.Own at hN
 simp only [hv] at hN
 have hj : p * 3 + 2 < G.ns.length * 3 := by omega
 obtain ⟨c1, c2⟩ := rowC_own hN hj (u := G.ns[p].vp) (by rw [csN_get G.ns p 2 hp (by omega)]; rfl)
 obtain ⟨k1, k2⟩ := GOwn.setP h.own hp hv ho hg hat hl hf
 have hgb : base ≤ g := by
  have := h.own.nrow.lt g (by show G.vn.ownBlock = some g; rw [hv]; rfl)
  exact this.1
 have hBg : B ≠ g := fun e => h.far (blks_mem.2 ⟨rowN G.vn G.ns, List.mem_cons_self .., by unfold rowN; rw [hv, e]; rfl⟩)
 refine ⟨c1, c2, Below.setCell (Below.refl _ _) hgb _, k1, ?_, ?_, h.hi⟩
 ·exact (h.box.grow hg (fun e => hBl B e.symm rfl)).far hBg _
 ·intro hB
  rcases k2 B hB with e | e
  ·rcases hat with q | q
   ·exact hBl B (q.symm.trans e) rfl
   ·have := q B e
    have := h.box.lt
    omega
  ·exact h.far e
theorem GBox.setQ (h : GBox w0 w base B G) (hp : p < G.es.length) (hv : G.ve = .slice (some ⟨g, 0, none⟩) G.es.length cap) {v : Value} {pm : List (Pp × AC)}
  (ho : (rowP v pm).Own w1 base) (hg : w.grownBy w1 G.es[p].vp.ownBlock) (hat : v.ownBlock = G.es[p].vp.ownBlock ∨ ∀ k, v.ownBlock = some k → w.heap.size ≤ k) (hl : PmOk w0 pm) :
  w1.cell? ⟨g, p * 5 + 4, none⟩ = some G.es[p].vp ∧ w1.frozen? ⟨g, p * 5 + 4, none⟩ = false ∧ Below base w1 (w1.setCell ⟨g, p * 5 + 4, none⟩ v) ∧ GBox w0 (w1.setCell ⟨g, p * 5 + 4, none⟩ v) base B { G with es := G.es.set p { G.es[p] with pm := pm, vp := v } } := by
 have hm := List.getElem_mem hp
 have hrow := h.own.qrow hm
 have hbk : ∀ k, G.es[p].vp.ownBlock = some k → base ≤ k := fun k e => (hrow.lt k e).1
 have hBl : ∀ k, G.es[p].vp.ownBlock = some k → k ≠ B := fun k e e' => h.far (by rw [← e']; exact blks_mem.2 ⟨_, List.mem_cons_of_mem _ (List.mem_cons_of_mem _ (mem_rowsE hm (List.mem_cons_self ..))), e⟩)
 have hf := h.fuB hg hbk
 have hR := Rows.turn (h.own.rows.perm (canonE hp)) hg ho hat
 have hN : (rowE G.ve G.es).Own w1 base := hR.own _ (List.mem_cons_of_mem _ (List.mem_cons_of_mem _ (List.mem_cons_self ..)))
 unfold rowE Rw.Own at hN
 simp only [hv] at hN
 have hj : p * 5 + 4 < G.es.length * 5 := by omega
 obtain ⟨c1, c2⟩ := rowC_own hN hj (u := G.es[p].vp) (by rw [csE_get G.es p 4 hp (by omega)]; rfl)
 obtain ⟨k1, k2⟩ := GOwn.setQ h.own hp hv ho hg hat hl hf
 have hgb : base ≤ g := by
  have := h.own.erow.lt g (by show G.ve.ownBlock = some g; rw [hv]; rfl)
  exact this.1
 have hBg : B ≠ g := fun e => h.far (blks_mem.2 ⟨rowE G.ve G.es, List.mem_cons_of_mem _ (List.mem_cons_self ..), by unfold rowE; rw [hv, e]; rfl⟩)
 refine ⟨c1, c2, Below.setCell (Below.refl _ _) hgb _, k1, ?_, ?_, h.hi⟩
 ·exact (h.box.grow hg (fun e => hBl B e.symm rfl)).far hBg _
 ·intro hB
  rcases k2 B hB with e | e
  ·rcases hat with q | q
   ·exact hBl B (q.symm.trans e) rfl
   ·have := q B e
    have := h.box.lt
    omega
  ·exact h.far e
end
theorem sC_ins (l : List (List UInt8)) (p : Nat) (s : List UInt8) : sC (insA l p s) = (sC l).take (p * 1) ++ [.string (bs s)] ++ (sC l).drop (p * 1) := by
 unfold sC
 rw [insA_map]
 unfold insA
 rw [Nat.mul_one, List.append_assoc, List.singleton_append]
theorem sC_del (l : List (List UInt8)) (p : Nat) : sC (delA l p) = (sC l).take (p * 1) ++ (sC l).drop ((p + 1) * 1) := by
 unfold sC
 rw [delA_map]
 unfold delA
 rw [Nat.mul_one, Nat.mul_one]
theorem sC_one (l : List (List UInt8)) : ∀ u ∈ sC l, u.oneCell' = true := by
 intro u hu
 obtain ⟨s, -, rfl⟩ := List.mem_map.1 hu
 rfl
theorem atS_le : ∀ (l : List (List UInt8)) (s : List UInt8), atS l s ≤ l.length
 | [], _ => Nat.le_refl _
 | y :: r, s => by
  rw [at_cons]
  split
  ·have := atS_le r s; simp; omega
  ·simp
end Go.Proofs.YtpamdlkagmlahaaGreatDoor

namespace Go.Proofs.YtpamdlkagmlahaaGreatDoor
open Go.RowKit
def labN (g : Gr) (p : Nat) (f : Nd → Nd) : Gr := { g with ns := g.ns.modify p f }
theorem set_modify {α : Type} (f : α → α) : ∀ (l : List α) (p : Nat) (h : p < l.length), l.set p (f l[p]) = l.modify p f
 | x :: r, 0, _ => rfl
 | x :: r, p + 1, h => by
  have h' : p < r.length := by simpa using h
  show x :: r.set p (f r[p]) = x :: r.modify p f
  rw [set_modify f r p h']
theorem nd_get {G : Gp} {p : Nat} (hp : p < G.ns.length) : (G.ns.map Np.nd)[p]? = some G.ns[p].nd := by rw [List.getElem?_map, List.getElem?_eq_getElem hp]; rfl
theorem gr_setN {G : Gp} {p : Nat} (hp : p < G.ns.length) (x : Np) (f : Nd → Nd) (e : x.nd = f G.ns[p].nd) : ({ G with ns := G.ns.set p x } : Gp).gr = labN G.gr p f := by
 unfold labN Gp.gr
 simp only
 rw [List.map_set, e, ← set_modify f _ p (by rw [List.length_map]; exact hp), List.getElem_map]
set_option maxHeartbeats 3200000 in
set_option maxRecDepth 100000 in
theorem addlabel_any {w0 w : World} {base B g cap p : Nat} {G : Gp} (h : GBox w0 w base B G) (hp : p < G.ns.length) (hv : G.vn = .slice (some ⟨g, 0, none⟩) G.ns.length cap) (s : List UInt8) (hs : s.length ≤ maxLen) (hinc : incS G.ns[p].ls) (h8 : G.ns[p].ls.length ≤ 8) :
  Calls Tryz.prog 114 #[.pointer (some ⟨g, p * 3, none⟩), .string (bs s)] w (RetEd w0 w base B G.xs (if hasS G.ns[p].ls s = true then 7 else if 8 ≤ G.ns[p].ls.length then 20 else 0) (labN G.gr p fun n => { n with ls := insA n.ls (atS n.ls s) s })) := by
 obtain ⟨X, hX⟩ : ∃ X, G.ns[p] = X := ⟨_, rfl⟩
 have hm := List.getElem_mem hp
 have hmv := (h.own.no _ hm).l
 have hrow := h.own.lrow hm
 have hgr := fun (x : Np) (e : x.nd = { G.ns[p].nd with ls := insA G.ns[p].nd.ls (atS G.ns[p].nd.ls s) s }) => gr_setN hp x (fun n => { n with ls := insA n.ls (atS n.ls s) s }) e
 have hcx := csN_get G.ns p 1 hp (by omega)
 have hset := fun (w1 : World) (v : Value) (hf : Fuw w w1) (w2 : World) (ho : (rowL v (insA G.ns[p].ls (atS G.ns[p].ls s) s)).Own w2 base) (hg : w1.grownBy w2 G.ns[p].vl.ownBlock) (hat : v.ownBlock = G.ns[p].vl.ownBlock ∨ ∀ k, v.ownBlock = some k → w1.heap.size ≤ k) =>
  GBox.setL (h.later hf) hp hv ho hg hat (fun t ht => (insA_mem.1 ht).elim (fun e => e ▸ hs) (hmv t))
 rw [hX] at hinc h8 hmv hrow hgr hcx hset ⊢
 clear hm hX
 obtain ⟨al, cl, el, sl⟩ := ls_row hrow hmv
 have HBS := Lib.hid (bss_any X.ls al cl s w sl hinc (by omega))
 have hQ : atS X.ls s ≤ X.ls.length := atS_le _ _
 have c1 : w.cell? ⟨g, p * 3 + 1, none⟩ = some (.slice al X.ls.length cl) := by
  have hN := h.own.nrow
  unfold rowN Rw.Own at hN
  simp only [hv] at hN
  exact (rowC_own hN (j := p * 3 + 1) (by omega) (u := .slice al X.ls.length cl) (by rw [hcx, ← el]; rfl)).1
 have HGR := Lib.hid hgr
 have HSET := Lib.hid hset
 have HBV := Lib.hid (fun k (e : X.vl.ownBlock = some k) => (hrow.lt k e))
 have HB := Lib.hid h.hb
 unfold rowL Rw.Own at hrow
 simp only [el] at hrow
 have HROW := Lib.hid hrow
 obtain ⟨R, hR⟩ : ∃ R, R = (if hasS X.ls s = true then 7 else if 8 ≤ X.ls.length then 20 else 0 : Int) := ⟨_, rfl⟩
 rw [← hR]
 have HR := Lib.hid hR
 have HEL := Lib.hid el
 clear hR hcx hset hgr
 generalize hasS X.ls s = q at *
 obtain ⟨i, hi⟩ : ∃ i, atS X.ls s = i := ⟨_, rfl⟩
 rw [hi] at HBS hQ
 have HI := Lib.hid hi
 clear h hmv sl hinc hrow el hi
 go_enter Tryz.func114, Tryz.ntmps114
 go_wp2_with fail
 go_at_call 167; refine HBS.out.mono ?_; rintro e1 w1 ⟨rfl, f1⟩
 have HF1 := Lib.hid f1
 have d1 : w1.cell? ⟨g, p * 3 + 1, none⟩ = some (.slice al X.ls.length cl) := cellOnw f1 c1
 clear f1 c1 HBS
 cases q with
 | true =>
  have HE := Lib.hid (show R = 7 from HR.out.trans (if_pos rfl))
  go_wp2
  go_ret
  exact ⟨ret_int HE.out.symm, below_of HF1.out HB.out, HF1.out.size, fun e => by rw [HE.out] at e; cases e⟩
 | false =>
  by_cases hfull : 8 ≤ X.ls.length
  ·have hq : ((X.ls.length : Int) == 8) = true := by rw [beq_iff_eq]; omega
   have HE := Lib.hid (show R = 20 from HR.out.trans ((if_neg (by decide)).trans (if_pos hfull)))
   go_wp2
   go_ret
   exact ⟨ret_int HE.out.symm, below_of HF1.out HB.out, HF1.out.size, fun e => by rw [HE.out] at e; cases e⟩
  ·have hq : ((X.ls.length : Int) == 8) = false := by rw [beq_eq_false_iff_ne]; omega
   have HE := Lib.hid (show R = 0 from HR.out.trans ((if_neg (by decide)).trans (if_neg hfull)))
   obtain ⟨W, hW⟩ : ∃ W, W = w1.alloc (.cells #[.string (bs s)] 9) := ⟨_, rfl⟩
   have fW : Fuw w1 W := by rw [hW]; exact fuwA _ _
   have bW : Bk W w1.heap.size #[.string (bs s)] 9 := by rw [hW]; exact Bk.new _ _ _
   have HIN := Lib.hid (show Calls Tryz.prog 168 #[.slice al X.ls.length cl, .int .i64 (i : Int), .slice (some ⟨w1.heap.size, 0, none⟩) 1 1] W (RetIns W base 9 1 (.slice al X.ls.length cl) (X.ls.length + 1) ((sC X.ls).take (i * 1) ++ [.string (bs s)] ++ (sC X.ls).drop (i * 1))) from
    ins_s (own_on HROW.out (HF1.out.trans fW)) i hQ (by omega) (by have := HF1.out.size; have := fW.size; have := HB.out; omega) bW rfl (fun e => by have := (HBV.out _ (by rw [HEL.out]; exact e)).2; have := HF1.out.size; omega) (sC_one _) (by intro u hu; simp at hu; rw [hu]; rfl))
   have HSW := Lib.hid (HSET.out W)
   have HFW := Lib.hid (HF1.out.trans fW)
   have d2 : W.cell? ⟨g, p * 3 + 1, none⟩ = some (.slice al X.ls.length cl) := cellOnw fW d1
   clear fW bW hQ hfull HSET
   go_upto_region 6 with fail
   go_wp2_with fail
   rw [← hW]
   clear hW
   go_at_call 168; refine HIN.out.mono ?_; rintro e2 w2 ⟨v2, rfl, hown2, hgr2, hat2⟩
   rw [← HEL.out] at hgr2 hat2
   obtain ⟨m0, z0, hbl, hgb⟩ := HSW.out v2 HFW.out w2 (by unfold rowL Rw.Own; simp only; rw [HI.out, insA_len, sC_ins]; exact hown2) hgr2 hat2
   obtain ⟨g2, k2, rfl, -⟩ := hown2.form (by omega)
   have HFIN := Lib.hid (show RetEd w0 w base B G.xs R (labN G.gr p fun n => { n with ls := insA n.ls (atS n.ls s) s }) (.returned (.int .i64 0)) (w2.setCell ⟨g, p * 3 + 1, none⟩ (.slice (some ⟨g2, 0, none⟩) (X.ls.length + 1) k2)) from
    ⟨by rw [HE.out], ((below_of HFW.out HB.out).trans (below_grown hgr2 (by have := HFW.out.size; have := HB.out; omega) (fun k e => (HBV.out k e).1))).trans hbl, by have := HFW.out.size; have := hgr2.size; simp; omega, fun _ => ⟨_, hgb, HGR.out _ rfl, rfl⟩⟩)
   clear hbl hgb hgr2 hat2 hown2 HIN HSW HGR d1 d2
   go_wp2
   go_ret
   exact HFIN.out
end Go.Proofs.YtpamdlkagmlahaaGreatDoor

namespace Go.Proofs.YtpamdlkagmlahaaGreatDoor
open Go.RowKit
set_option maxHeartbeats 3200000 in
set_option maxRecDepth 100000 in
theorem dellabel_any {w0 w : World} {base B g cap p : Nat} {G : Gp} (h : GBox w0 w base B G) (hp : p < G.ns.length) (hv : G.vn = .slice (some ⟨g, 0, none⟩) G.ns.length cap) (s : List UInt8) (hinc : incS G.ns[p].ls) (h8 : G.ns[p].ls.length ≤ 8) :
  Calls Tryz.prog 115 #[.pointer (some ⟨g, p * 3, none⟩), .string (bs s)] w (RetEd w0 w base B G.xs (if hasS G.ns[p].ls s = true then 0 else 23) (labN G.gr p fun n => { n with ls := delA n.ls (atS n.ls s) })) := by
 obtain ⟨X, hX⟩ : ∃ X, G.ns[p] = X := ⟨_, rfl⟩
 have hm := List.getElem_mem hp
 have hmv := (h.own.no _ hm).l
 have hrow := h.own.lrow hm
 have hgr := fun (x : Np) (e : x.nd = { G.ns[p].nd with ls := delA G.ns[p].nd.ls (atS G.ns[p].nd.ls s) }) => gr_setN hp x (fun n => { n with ls := delA n.ls (atS n.ls s) }) e
 have hcx := csN_get G.ns p 1 hp (by omega)
 have hset := fun (w1 : World) (v : Value) (hf : Fuw w w1) (w2 : World) (ho : (rowL v (delA G.ns[p].ls (atS G.ns[p].ls s))).Own w2 base) (hg : w1.grownBy w2 G.ns[p].vl.ownBlock) (hat : v.ownBlock = G.ns[p].vl.ownBlock ∨ ∀ k, v.ownBlock = some k → w1.heap.size ≤ k) =>
  GBox.setL (h.later hf) hp hv ho hg hat (fun t ht => hmv t (delA_mem ht))
 rw [hX] at hinc h8 hmv hrow hgr hcx hset ⊢
 clear hm hX
 obtain ⟨al, cl, el, sl⟩ := ls_row hrow hmv
 have HBS := Lib.hid (bss_any X.ls al cl s w sl hinc (by omega))
 have hQ : hasS X.ls s = true → atS X.ls s < X.ls.length := fun e => by
  unfold hasS at e
  rw [List.any_eq_true] at e
  obtain ⟨n, hn, en⟩ := e
  have en' : n = s := by simpa using en
  subst en'
  exact (List.getElem?_eq_some_iff.1 (atS_spec hinc hn)).1
 have c1 : w.cell? ⟨g, p * 3 + 1, none⟩ = some (.slice al X.ls.length cl) := by
  have hN := h.own.nrow
  unfold rowN Rw.Own at hN
  simp only [hv] at hN
  exact (rowC_own hN (j := p * 3 + 1) (by omega) (u := .slice al X.ls.length cl) (by rw [hcx, ← el]; rfl)).1
 have HGR := Lib.hid hgr
 have HSET := Lib.hid hset
 have HBV := Lib.hid (fun k (e : X.vl.ownBlock = some k) => (hrow.lt k e))
 have HB := Lib.hid h.hb
 unfold rowL Rw.Own at hrow
 simp only [el] at hrow
 have HROW := Lib.hid hrow
 have hrowF := Lib.hid hrow
 obtain ⟨R, hR⟩ : ∃ R, R = (if hasS X.ls s = true then 0 else 23 : Int) := ⟨_, rfl⟩
 rw [← hR]
 have HR := Lib.hid hR
 have HEL := Lib.hid el
 clear hR hcx hset hgr
 generalize hasS X.ls s = q at *
 obtain ⟨i, hi⟩ : ∃ i, atS X.ls s = i := ⟨_, rfl⟩
 rw [hi] at HBS hQ
 have HI := Lib.hid hi
 clear h hmv sl hinc hrow el hi
 go_enter Tryz.func115, Tryz.ntmps115
 go_wp2_with fail
 go_at_call 167; refine HBS.out.mono ?_; rintro e1 w1 ⟨rfl, f1⟩
 have HF1 := Lib.hid f1
 have d1 : w1.cell? ⟨g, p * 3 + 1, none⟩ = some (.slice al X.ls.length cl) := cellOnw f1 c1
 clear f1 c1 HBS
 cases q with
 | false =>
  have HE := Lib.hid (show R = 23 from HR.out.trans (if_neg (by decide)))
  go_wp2
  go_ret
  exact ⟨ret_int HE.out.symm, below_of HF1.out HB.out, HF1.out.size, fun e => by rw [HE.out] at e; cases e⟩
 | true =>
  have hil := hQ rfl
  have HE := Lib.hid (show R = 0 from HR.out.trans (if_pos rfl))
  rcases (hrowF.out).form' with ⟨-, h0⟩ | ⟨gl, cl', e, hc1, hc2⟩
  ·omega
  cases e
  have hi5 : (i : Int) + 1 ≤ 9223372036854775807 := by unfold maxLen at hc2; omega
  have HIN := Lib.hid (show Calls Tryz.prog 169 #[.slice (some ⟨gl, 0, none⟩) X.ls.length cl, .int .i64 (i : Int), .int .i64 ((i : Int) + 1)] w1 (RetDel w1 base 9 1 gl cl (X.ls.length - 1) ((sC X.ls).take (i * 1) ++ (sC X.ls).drop ((i + 1) * 1))) from
   del_s (own_on HROW.out HF1.out) i hil (sC_one _))
  have HSW := Lib.hid (HSET.out w1)
  have HIL := Lib.hid hil
  clear hQ HSET hc1 hc2
  go_upto_region 4 with fail
  go_wp2_with fail
  go_at_call 169; refine HIN.out.mono ?_; rintro e2 w2 ⟨rfl, hown2, hgr2⟩
  have hob : (Value.slice (some ⟨gl, 0, none⟩) X.ls.length cl).ownBlock = some gl := rfl
  rw [← hob, ← HEL.out] at hgr2
  obtain ⟨m0, z0, hbl, hgb⟩ := HSW.out (.slice (some ⟨gl, 0, none⟩) (X.ls.length - 1) cl) HF1.out w2 (by unfold rowL Rw.Own; simp only; rw [HI.out, sC_del, show (delA X.ls i).length = X.ls.length - 1 by have := delA_len X.ls i HIL.out; omega]; exact hown2) hgr2 (.inl (by rw [HEL.out]; rfl))
  have HFIN := Lib.hid (show RetEd w0 w base B G.xs R (labN G.gr p fun n => { n with ls := delA n.ls (atS n.ls s) }) (.returned (.int .i64 0)) (w2.setCell ⟨g, p * 3 + 1, none⟩ (.slice (some ⟨gl, 0, none⟩) (X.ls.length - 1) cl)) from
   ⟨by rw [HE.out], ((below_of HF1.out HB.out).trans (below_grown hgr2 (by have := HF1.out.size; have := HB.out; omega) (fun k e => (HBV.out k e).1))).trans hbl, by have := HF1.out.size; have := hgr2.size; simp; omega, fun _ => ⟨_, hgb, HGR.out _ rfl, rfl⟩⟩)
  clear hbl hgb hgr2 hown2 HIN HSW HGR d1 hob
  go_wp2
  go_ret
  exact HFIN.out
end Go.Proofs.YtpamdlkagmlahaaGreatDoor

namespace Go.Proofs.YtpamdlkagmlahaaGreatDoor
open Go.RowKit
set_option maxHeartbeats 1600000 in
set_option maxRecDepth 100000 in
theorem rhass_any (l : List (List UInt8)) (ao : Option Addr) (cap : Nat) (s : List UInt8) (w : World) (hs : SlS w ao l cap) :
  Calls Tryz.prog 130 #[.slice ao l.length cap, .string (bs s)] w (PureB w (hasS l s)) := by
 have hl := hs.len
 have HS := Lib.hid hs
 clear hs
 obtain ⟨R, hR⟩ : ∃ R, R = hasS l s := ⟨_, rfl⟩
 rw [← hR]
 have HR := Lib.hid (show R = hasS (l.drop 0) s from hR)
 clear hR
 go_enter Tryz.func130, Tryz.ntmps130
 go_wp2
 go_loop [5] (fun iv => ∃ i : Nat, iv = .int .i64 i ∧ i ≤ l.length ∧ Hid (R = hasS (l.drop i) s)) (fun iv => l.length - (RowKit.intOf iv).toNat)
 case atStart => exact ⟨0, rfl, Nat.zero_le _, HR⟩
 case round =>
  obtain ⟨i, rfl, hi, HN⟩ := hrel
  by_cases hlt : i < l.length
  ·obtain ⟨b, o, rfl, -, hc⟩ := HS.out.get hlt
   have HA := Lib.hid (hasS_drop l s i hlt)
   rw [Nat.mul_one] at hc
   generalize l[i] = t at *
   cases hb : ((bs t).toList == (bs s).toList) with
   | true =>
    have HZ := Lib.hid (show R = true by
     rw [bs_eq] at hb
     rw [HN.out, HA.out, hb]; rfl)
    go_wp2
    go_ret
    exact ⟨ret_bool HZ.out.symm, rfl⟩
   | false =>
    have HZ := Lib.hid (show R = hasS (l.drop (i + 1)) s by
     rw [bs_eq] at hb
     rw [HN.out, HA.out, hb]; rfl)
    go_wp2
    go_round
    case rel => exact ⟨i + 1, by go_num, by omega, HZ⟩
    case measure => simp [RowKit.intOf]; omega
  ·have HZ := Lib.hid (show R = false by rw [HN.out, hasS_end _ _ _ (by omega)])
   go_wp2
   go_ret
   exact ⟨ret_bool HZ.out.symm, rfl⟩
theorem rhast_any (e : Ed) (ap : Option Addr) (cp : Nat) (l : List (List UInt8)) (ao : Option Addr) (cap : Nat) (w : World) (hs : SlS w ao l cap) :
  Calls Tryz.prog 184 #[edv e ap cp, .slice ao l.length cap] w (FwB w (hasT e.ty l)) := by
 have hl := hs.len
 have HC := Lib.hid (fun w' (hf : Fuw w w') => rhass_any l ao cap e.ty w' (slS_on hf hs))
 clear hs
 unfold edv
 rcases Nat.eq_zero_or_pos l.length with h | h
 ·have HZ := Lib.hid (hasT_nil e.ty h)
  have h1 : ((l.length : Int) == 0) = true := by rw [h]; rfl
  clear h
  generalize hasT e.ty l = R at *
  go_enter Tryz.func184, Tryz.ntmps184
  go_wp2
  go_ret
  exact ⟨ret_bool HZ.out.symm, fuwA _ _⟩
 ·have HZ := Lib.hid (hasT_pos e.ty h)
  have h1 : ((l.length : Int) == 0) = false := by rw [beq_eq_false_iff_ne]; omega
  clear h
  generalize hasT e.ty l = R at *
  generalize hasS l e.ty = r at *
  go_enter Tryz.func184, Tryz.ntmps184
  go_wp2_with (go_at_call 130; refine (HC.out _ (fuwA _ _)).mono ?_; rintro e1 w1 ⟨rfl, rfl⟩)
  go_ret
  exact ⟨ret_bool HZ.out.symm, fuwA _ _⟩
end Go.Proofs.YtpamdlkagmlahaaGreatDoor
