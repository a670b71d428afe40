/-
  M24; M25: texts of one kind in one file; each part says what it holds.
-/
import Derived.Test.YtdalienglcpjbaaGreatDoorK06
import Derived.Test.YtdalienglcpjbaaGreatDoorK14
import Derived.Test.YtdalienglcpjbaaGreatDoorK01
import Derived.Test.YtdalienglcpjbaaGreatDoorM05
import Derived.Orders
import Derived.RegionTactic

/-! GsL; CpM: texts of one kind in one file; each part says what it holds. -/

/-! The reference of package graph: SameStrs and SameProps of any two slices. What was there does not turn. -/
namespace Go.Proofs.YtdalienglcpjbaaGreatDoor
open Go.RowKit

def eqS (x y : List UInt8) : Bool := x == y
set_option maxHeartbeats 1600000 in
set_option maxRecDepth 100000 in
theorem rsstr_any (a b : List (List UInt8)) (ao bo : Option Addr) (ca cb : Nat) (w : World) (ha : SlS w ao a ca) (hb : SlS w bo b cb) :
    Calls Tryz.prog 54 #[.slice ao a.length ca, .slice bo b.length cb] w (FwB w (al2 eqS a b)) := by
  have la := ha.len
  have lb := hb.len
  have HA := Lib.hid ha
  have HB := Lib.hid hb
  clear ha hb
  obtain ⟨R, hR⟩ : ∃ R, R = al2 eqS a b := ⟨_, rfl⟩
  rw [← hR]
  have HR := Lib.hid hR
  clear hR
  by_cases hl : a.length = b.length
  · have HL := Lib.hid hl
    have hq : ((a.length : Int) != (b.length : Int)) = false := by rw [hl]; simp
    have hS := Lib.hid (show R = al2 eqS (a.drop 0) (b.drop 0) from HR.out)
    clear hl
    go_enter Tryz.func54, Tryz.ntmps54
    go_wp2
    clear hq
    go_loopw [5] (fun iv wr => ∃ i : Nat, iv = .int .i64 i ∧ i ≤ a.length ∧ Hid (R = al2 eqS (a.drop i) (b.drop i)) ∧ Hid (Fuw w wr)) (fun iv _ => a.length - (RowKit.intOf iv).toNat)
    case atStart => exact ⟨0, rfl, Nat.zero_le _, hS, Fuw.refl _⟩
    case round =>
      obtain ⟨i, rfl, hi, HQ, hf⟩ := hrel
      by_cases hlt : i < a.length
      · have hlb : i < b.length := by have := HL.out; omega
        obtain ⟨g, o, rfl, -, c0⟩ := (slS_on hf.out HA.out).get hlt
        obtain ⟨g', o', rfl, -, d0⟩ := (slS_on hf.out HB.out).get hlb
        have HD := Lib.hid (HQ.out.trans (al2_drop eqS a b i hlt hlb))
        rw [Nat.mul_one] at c0 d0
        generalize a[i] = x at *
        generalize b[i] = y at *
        cases hr : ((bs x).toList == (bs y).toList) with
        | false =>
          have HZ := Lib.hid (show R = false by
            rw [bs_eq] at hr
            rw [HD.out]
            unfold eqS
            rw [hr]; rfl)
          have hn : ((bs x).toList != (bs y).toList) = true := by rw [bne, hr]; rfl
          go_wp2
          go_quiet (fail)
          clear hn hr
          go_wp2
          go_ret
          exact ⟨ret_bool HZ.out.symm, hf.out.trans (fuw_dr _ _)⟩
        | true =>
          have HZ := Lib.hid (show R = al2 eqS (a.drop (i + 1)) (b.drop (i + 1)) by
            rw [bs_eq] at hr
            rw [HD.out]
            unfold eqS
            rw [hr]; rfl)
          have hn : ((bs x).toList != (bs y).toList) = false := by rw [bne, hr]; rfl
          go_wp2
          go_quiet (fail)
          clear hn hr
          go_wp2
          go_roundw
          case rel => exact ⟨i + 1, by go_num, by omega, HZ, hf.out.trans (fuw_dr _ _)⟩
          case measure => simp [RowKit.intOf]; omega
      · have HZ := Lib.hid (show R = true by rw [HQ.out, al2_end _ _ _ _ (by omega) (by have := HL.out; omega)])
        go_wp2
        go_ret
        exact ⟨ret_bool HZ.out.symm, hf.out⟩
  · have HZ := Lib.hid (show R = false by rw [HR.out]; exact al2_len _ _ _ hl)
    have hq : ((a.length : Int) != (b.length : Int)) = true := by rw [bne_iff_ne]; omega
    clear hl
    go_enter Tryz.func54, Tryz.ntmps54
    go_wp2
    go_ret
    exact ⟨ret_bool HZ.out.symm, Fuw.refl _⟩
set_option maxHeartbeats 3200000 in
set_option maxRecDepth 100000 in
theorem rsprop_any (a l : List Pp) (ao bo : Option Addr) (ca cb : Nat) (w : World) (ha : SlP w ao a ca) (hb : SlP w bo l cb) :
    Calls Tryz.prog 55 #[.slice ao a.length ca, .slice bo l.length cb] w (FwB w (al2 samP a l)) := by
  have la := ha.len
  have lb := hb.len
  have HA := Lib.hid ha
  have HB := Lib.hid hb
  clear ha hb
  obtain ⟨R, hR⟩ : ∃ R, R = al2 samP a l := ⟨_, rfl⟩
  rw [← hR]
  have HR := Lib.hid hR
  clear hR
  by_cases hl : a.length = l.length
  · have HL := Lib.hid hl
    have hq : ((a.length : Int) != (l.length : Int)) = false := by rw [hl]; simp
    have hS := Lib.hid (show R = al2 samP (a.drop 0) (l.drop 0) from HR.out)
    clear hl
    go_enter Tryz.func55, Tryz.ntmps55
    go_wp2
    clear hq
    go_loopw [5] (fun iv wr => ∃ i : Nat, iv = .int .i64 i ∧ i ≤ a.length ∧ Hid (R = al2 samP (a.drop i) (l.drop i)) ∧ Hid (Fuw w wr)) (fun iv _ => a.length - (RowKit.intOf iv).toNat)
    case atStart => exact ⟨0, rfl, Nat.zero_le _, hS, Fuw.refl _⟩
    case round =>
      obtain ⟨i, rfl, hi, HQ, hf⟩ := hrel
      by_cases hlt : i < a.length
      · have hlb : i < l.length := by have := HL.out; omega
        have hlt2 : (i : Int) < (a.length : Int) := by omega
        have hlb2 : (i : Int) < (l.length : Int) := by omega
        obtain ⟨b, o, rfl, -, k0, hv⟩ := (slP_on hf.out HA.out).get hlt
        obtain ⟨b', o', rfl, -, k0', hv'⟩ := (slP_on hf.out HB.out).get hlb
        obtain ⟨hy, c0, c1, c2, c3, a1, k1, c4, hs1⟩ := VC_of hv
        obtain ⟨hy', d0, d1, d2, d3, a2, k2, d4, hs2⟩ := VC_of hv'
        have HC := Lib.hid (fun w' (hf' : Fuw wr w') => rorder_all a[i].v l[i].v a1 a2 k1 k2 w' hy hy' (hs1.onw hf') (hs2.onw hf'))
        have HD := Lib.hid (show R = (((a[i].k == l[i].k) && (ordV a[i].v l[i].v == 0)) && al2 samP (a.drop (i + 1)) (l.drop (i + 1))) from HQ.out.trans (al2_drop samP a l i hlt hlb))
        unfold vlv at HC
        clear hv hv' hs1 hs2 hy hy'
        generalize ordV a[i].v l[i].v = d at *
        generalize a[i].v = x at *
        generalize a[i].k = key at *
        generalize l[i].v = y at *
        generalize l[i].k = key' at *
        go_upto_region 6 with fail
        cases hr : ((bs key).toList == (bs key').toList) with
        | false =>
          have HZ := Lib.hid (show R = false by
            rw [bs_eq] at hr
            rw [HD.out, hr]; rfl)
          have hn : ((bs key).toList != (bs key').toList) = true := by rw [bne, hr]; rfl
          go_quiet (fail)
          clear hn hr
          go_wp2
          go_ret
          exact ⟨ret_bool HZ.out.symm, hf.out.trans (fuw_dr _ _)⟩
        | true =>
          have HE := Lib.hid (show R = ((d == 0) && al2 samP (a.drop (i + 1)) (l.drop (i + 1))) by
            rw [bs_eq] at hr
            rw [HD.out, hr]; rfl)
          have hn : ((bs key).toList != (bs key').toList) = false := by rw [bne, hr]; rfl
          have ff : Fuw wr wr.drew := Fuw.drew (Fuw.refl wr)
          go_region_held3 (fun w' => w'.cell? ⟨b, o + i * 6, none⟩ = some (.string (bs key)) ∧ w'.cell? ⟨b, o + i * 6 + 1, none⟩ = some (.int .i64 x.kd) ∧ w'.cell? ⟨b, o + i * 6 + 1 + 1, none⟩ = some (.int .i64 x.nn) ∧ w'.cell? ⟨b, o + i * 6 + 1 + 2, none⟩ = some (.int .i64 x.dd) ∧ w'.cell? ⟨b, o + i * 6 + 1 + 3, none⟩ = some (.string (bs x.ss)) ∧ w'.cell? ⟨b, o + i * 6 + 1 + 4, none⟩ = some (.slice a1 x.ll.length k1) ∧ w'.cell? ⟨b', o' + i * 6, none⟩ = some (.string (bs key')) ∧ w'.cell? ⟨b', o' + i * 6 + 1, none⟩ = some (.int .i64 y.kd) ∧ w'.cell? ⟨b', o' + i * 6 + 1 + 1, none⟩ = some (.int .i64 y.nn) ∧ w'.cell? ⟨b', o' + i * 6 + 1 + 2, none⟩ = some (.int .i64 y.dd) ∧ w'.cell? ⟨b', o' + i * 6 + 1 + 3, none⟩ = some (.string (bs y.ss)) ∧ w'.cell? ⟨b', o' + i * 6 + 1 + 4, none⟩ = some (.slice a2 y.ll.length k2))
            (first | exact ⟨cellOnw ff k0, cellOnw ff c0, cellOnw ff c1, cellOnw ff c2, cellOnw ff c3, cellOnw ff c4, cellOnw ff k0', cellOnw ff d0, cellOnw ff d1, cellOnw ff d2, cellOnw ff d3, cellOnw ff d4⟩)
            (first | (go_at_call 63; refine (HC.out _ ff).mono ?_; rintro e w4 ⟨rfl, f4⟩; replace ff := ff.trans f4))
          all_goals
            clear hn hr
            have HF := Lib.hid (hf.out.trans ff)
            clear ff
            by_cases hd : d = 0
            · have HZ := Lib.hid (show R = al2 samP (a.drop (i + 1)) (l.drop (i + 1)) by rw [HE.out, hd]; rfl)
              subst hd
              go_wp2
              go_roundw
              case rel => exact ⟨i + 1, by go_num, by omega, HZ, HF⟩
              case measure => simp [RowKit.intOf]; omega
            · have HZ := Lib.hid (show R = false by rw [HE.out, beq_eq_false_iff_ne.2 hd]; rfl)
              have hd' : (d != 0) = true := by rw [bne_iff_ne]; exact hd
              clear hd
              go_wp2
              go_ret
              exact ⟨ret_bool HZ.out.symm, HF.out⟩
      · have HZ := Lib.hid (show R = true by rw [HQ.out, al2_end _ _ _ _ (by omega) (by have := HL.out; omega)])
        go_wp2
        go_ret
        exact ⟨ret_bool HZ.out.symm, hf.out⟩
  · have HZ := Lib.hid (show R = false by rw [HR.out]; exact al2_len _ _ _ hl)
    have hq : ((a.length : Int) != (l.length : Int)) = true := by rw [bne_iff_ne]; omega
    clear hl
    go_enter Tryz.func55, Tryz.ntmps55
    go_wp2
    go_ret
    exact ⟨ret_bool HZ.out.symm, Fuw.refl _⟩
end Go.Proofs.YtdalienglcpjbaaGreatDoor

/-! What a call has built lies in blocks of its own: 'P holds in every world with the same blocks from lo on, but for the block o'. Lists of values so built. No program's function is walked here. -/
namespace Go.Proofs.YtdalienglcpjbaaGreatDoor
open Go.RowKit

def Kb (lo : Nat) (o : Option Nat) (w : World) (P : World → Prop) : Prop :=
  ∀ w2 : World, (∀ b, lo ≤ b → b < w.heap.size → some b ≠ o → w2.heap[b]? = w.heap[b]?) → P w2
section
variable {lo s : Nat} {o o' : Option Nat} {w w' : World} {P Q : World → Prop}
theorem Kb.now (h : Kb lo o w P) : P w := h w fun _ _ _ _ => rfl
theorem Kb.imp (h : Kb lo o w P) (hp : ∀ x, P x → Q x) : Kb lo o w Q := fun w2 h2 => hp _ (h w2 h2)
theorem Kb.and (h : Kb lo o w P) (k : Kb lo o w Q) : Kb lo o w (fun x => P x ∧ Q x) := fun w2 h2 => ⟨h w2 h2, k w2 h2⟩
theorem Kb.triv (hp : ∀ x, P x) : Kb lo o w P := fun w2 _ => hp w2
/-- Later, when only o's block may have turned. -/
theorem Kb.on (h : Kb lo o w P) (hs : w.heap.size ≤ w'.heap.size) (hb : ∀ b, lo ≤ b → b < w.heap.size → some b ≠ o → w'.heap[b]? = w.heap[b]?) (ho : o' = o ∨ ∀ k, o' = some k → w.heap.size ≤ k) : Kb lo o' w' P := by
  intro w2 h2
  refine h w2 fun b h1 hlt hne => ?_
  rw [h2 b h1 (Nat.lt_of_lt_of_le hlt hs) ?_, hb b h1 hlt hne]
  rcases ho with e | e
  · rw [e]; exact hne
  · intro q
    have := e b q.symm
    omega
theorem Kb.later (h : Kb lo o w P) (hf : Fuw w w') : Kb lo o w' P := h.on hf.size (fun b _ hb _ => Below.block hf b hb) (.inl rfl)
theorem Kb.low (h : Kb s none w P) (hl : lo ≤ s) (ho : ∀ k, o = some k → k < s ∨ w.heap.size ≤ k) : Kb lo o w P := by
  intro w2 h2
  refine h w2 fun b h1 hlt _ => h2 b (by omega) hlt ?_
  intro q
  rcases ho b q.symm with k | k <;> omega
theorem Kb.grown {v v' : Value} (h : Kb lo v.ownBlock w P) (hg : w.grownBy w' v.ownBlock) (hat : v'.ownBlock = v.ownBlock ∨ v'.ownBlock = some w.heap.size) : Kb lo v'.ownBlock w' P :=
  h.on hg.size (fun b _ h2 h3 => hg.block b h2 h3) (by
    rcases hat with e | e
    · exact .inl e
    · refine .inr fun k hk => ?_
      rw [e] at hk; injection hk with hk; omega)
end
/-- A value's five cells. -/
def vC (x : Vl) (ao : Option Addr) (cap : Nat) : List Value := [.int .i64 x.kd, .int .i64 x.nn, .int .i64 x.dd, .string (bs x.ss), .slice ao x.ll.length cap]
abbrev VPm := Vl × Option Addr × Nat
def vCs (ps : List VPm) : List Value := ps.flatMap fun p => vC p.1 p.2.1 p.2.2
theorem vCs_app (a b : List VPm) : vCs (a ++ b) = vCs a ++ vCs b := by unfold vCs; rw [List.flatMap_append]
theorem vCs_one (p : VPm) : vCs [p] = vC p.1 p.2.1 p.2.2 := by unfold vCs; simp
theorem vCs_len : ∀ ps : List VPm, (vCs ps).length = ps.length * 5
  | [] => rfl
  | p :: r => by
    show (vC p.1 p.2.1 p.2.2 ++ vCs r).length = _
    rw [List.length_append, vCs_len r, List.length_cons]
    show 5 + _ = _
    omega
theorem vCs_get : ∀ (ps : List VPm) (i j : Nat) (h : i < ps.length), j < 5 → (vCs ps)[i * 5 + j]? = (vC ps[i].1 ps[i].2.1 ps[i].2.2)[j]?
  | p :: r, 0, j, _, hj => by
    show (vC p.1 p.2.1 p.2.2 ++ vCs r)[0 * 5 + j]? = _
    rw [Nat.zero_mul, Nat.zero_add, List.getElem?_append_left (by show j < 5; exact hj)]
    rfl
  | p :: r, i + 1, j, h, hj => by
    show (vC p.1 p.2.1 p.2.2 ++ vCs r)[(i + 1) * 5 + j]? = _
    rw [List.getElem?_append_right (by show 5 ≤ _; omega)]
    have k := vCs_get r i j (by simpa using h) hj
    rw [show (i + 1) * 5 + j - (vC p.1 p.2.1 p.2.2).length = i * 5 + j by show _ - 5 = _; omega, k]
    rfl
theorem VE_mk {w : World} : ∀ {l : List Vl} {b o : Nat}, (∀ (i : Nat) (h : i < l.length), VC w l[i] b (o + i * 5)) → VE w l b o
  | [], _, _, _ => by unfold VE; trivial
  | v :: r, b, o, h => by
    unfold VE
    refine ⟨(by have k := h 0 (by simp); rw [Nat.zero_mul, Nat.add_zero] at k; exact k), VE_mk fun i hi => ?_⟩
    have k := h (i + 1) (by simpa using hi)
    rwa [show o + (i + 1) * 5 = o + 5 + i * 5 by omega] at k
/-- What lies inside the values. -/
def Nst (ps : List VPm) (w : World) : Prop := ∀ p ∈ ps, SlV w p.2.1 p.1.ll p.2.2
theorem Nst.nil (w : World) : Nst [] w := fun _ h => by cases h
theorem Nst.snoc {ps : List VPm} {p : VPm} {w : World} (h : Nst ps w) (k : SlV w p.2.1 p.1.ll p.2.2) : Nst (ps ++ [p]) w := fun q hq => by
  rcases List.mem_append.1 hq with e | e
  · exact h q e
  · rw [List.mem_singleton] at e; subst e; exact k
theorem own_heap {w w' : World} {base e size : Nat} {v : Value} {n : Nat} {xs : List Value} (h : w.ownsRow base e size v n xs) (hb : ∀ g, v.ownBlock = some g → w'.heap[g]? = w.heap[g]?) : w'.ownsRow base e size v n xs := by
  refine ⟨h.1, ?_⟩
  rcases h.2 with h0 | ⟨g, cap, cur, rfl, hg, hh, rest⟩
  · exact .inl h0
  · exact .inr ⟨g, cap, cur, rfl, hg, by rw [hb g rfl]; exact hh, rest⟩
theorem slV_own {w : World} {base : Nat} {v : Value} {n : Nat} {ps : List VPm} (h : w.ownsRow base 28 5 v n (vCs ps)) (hv : ∀ p ∈ ps, Vin p.1) (hn : Nst ps w) : ∃ ao cap, v = .slice ao ps.length cap ∧ n = ps.length ∧ SlV w ao (ps.map Prod.fst) cap := by
  have hl := h.1
  rw [vCs_len] at hl
  obtain rfl : n = ps.length := by omega
  rcases h.2 with ⟨rfl, h0⟩ | ⟨g, cap, cur, rfl, hb, hh, h1, h2, h3, h4⟩
  · have e : ps = [] := List.eq_nil_of_length_eq_zero h0
    subst e
    exact ⟨none, 0, rfl, rfl, ⟨Nat.le_refl _, Nat.zero_le _, fun _ => rfl, fun k => absurd k (by decide)⟩⟩
  · refine ⟨_, cap, rfl, rfl, by rw [List.length_map]; exact h1, h2, (fun k => by cases k), fun _ => ⟨g, 0, rfl, VE_mk fun i hi => ?_⟩⟩
    rw [List.length_map] at hi
    rw [List.getElem_map]
    have hc : ∀ j, j < 5 → w.cell? ⟨g, 0 + i * 5 + j, none⟩ = (vC ps[i].1 ps[i].2.1 ps[i].2.2)[j]? := fun j hj => by
      have k := h.cellAt (i * 5 + j) (by omega)
      rw [vCs_get ps i j hi hj] at k
      rwa [Nat.zero_add]
    have hm : ps[i] ∈ ps := List.getElem_mem hi
    exact VC_mk (hv _ hm) (hc 0 (by decide)) (hc 1 (by decide)) (hc 2 (by decide)) (hc 3 (by decide)) (hc 4 (by decide)) (hn _ hm)
/-- A list of values so built. -/
def BuiltV (lo : Nat) (l : List Vl) (v : Value) (w : World) : Prop := ∃ ao cap, v = .slice ao l.length cap ∧ Kb lo none w (fun w2 => SlV w2 ao l cap)
theorem built_own {w : World} {base : Nat} {v : Value} {n : Nat} {ps : List VPm} (h : w.ownsRow base 28 5 v n (vCs ps)) (hv : ∀ p ∈ ps, Vin p.1) (hn : Kb base v.ownBlock w (Nst ps)) : BuiltV base (ps.map Prod.fst) v w := by
  obtain ⟨ao, cap, e, e2, -⟩ := slV_own h hv hn.now
  refine ⟨ao, cap, by rw [List.length_map]; exact e, fun w2 h2 => ?_⟩
  have ho : w2.ownsRow base 28 5 v n (vCs ps) := own_heap h fun g hg => h2 g (h.lt g hg).1 (h.lt g hg).2 (by intro q; cases q)
  obtain ⟨ao', cap', e', -, hs⟩ := slV_own ho hv (hn w2 fun b h1 hlt _ => h2 b h1 hlt (by intro q; cases q))
  rw [e] at e'
  cases e'
  exact hs
/-- A value's cells with what lies inside it. -/
def VCa (x : Vl) (a : Option Addr) (k : Nat) (b o : Nat) (w : World) : Prop := w.cell? ⟨b, o, none⟩ = some (.int .i64 x.kd) ∧ w.cell? ⟨b, o + 1, none⟩ = some (.int .i64 x.nn) ∧ w.cell? ⟨b, o + 2, none⟩ = some (.int .i64 x.dd) ∧ w.cell? ⟨b, o + 3, none⟩ = some (.string (bs x.ss)) ∧ w.cell? ⟨b, o + 4, none⟩ = some (.slice a x.ll.length k) ∧ SlV w a x.ll k
theorem cell_lt' {w : World} {b o : Nat} {v : Value} (h : w.cell? ⟨b, o, none⟩ = some v) : b < w.heap.size := by
  rcases Nat.lt_or_ge b w.heap.size with k | k
  · exact k
  · simp [World.cell?, Array.getElem?_eq_none k] at h
/-- What holds whatever lies below lo speaks of blocks from lo on. -/
theorem kb_lo {lo b o : Nat} {w : World} (h : Kb lo none w (fun w2 => ∃ u, w2.cell? ⟨b, o, none⟩ = some u)) : lo ≤ b := by
  rcases Nat.lt_or_ge b lo with k | k
  · exfalso
    obtain ⟨u, hu⟩ := h { w with heap := w.heap.setIfInBounds b (.cells #[] 0 (0, 0)) } (fun c h1 _ _ => by
      show (w.heap.setIfInBounds b _)[c]? = _
      rw [Array.getElem?_setIfInBounds_ne (by omega)])
    have hb := cell_lt' hu
    have e : (w.heap.setIfInBounds b (.cells #[] 0 (0, 0)))[b]? = some (.cells #[] 0 (0, 0)) := by
      rw [Array.getElem?_setIfInBounds_self]
      rw [if_pos (by simpa using hb)]
    simp [World.cell?, e] at hu
  · exact k
theorem cell_heap {w w2 : World} {b : Nat} (h : w2.heap[b]? = w.heap[b]?) (o : Nat) : w2.cell? ⟨b, o, none⟩ = w.cell? ⟨b, o, none⟩ := World.cell?_of_block h
theorem built_one {lo : Nat} {x : Vl} {v : Value} {w : World} (h : BuiltV lo [x] v w) : ∃ b o c a k, v = .slice (some ⟨b, o, none⟩) 1 c ∧ Kb lo none w (VCa x a k b o) := by
  obtain ⟨ao, cap, rfl, hk⟩ := h
  obtain ⟨b, o, e, hv⟩ := hk.now.get (i := 0) (by simp)
  subst e
  have hc : Kb lo none w (fun w2 => VC w2 x b o) := hk.imp fun w2 h2 => by
    obtain ⟨b', o', e, hv⟩ := h2.get (i := 0) (by simp)
    cases e
    simpa using hv
  have hlo : lo ≤ b := kb_lo (o := o) (hc.imp fun w2 h2 => ⟨_, (VC_of h2).2.1⟩)
  obtain ⟨-, c0, c1, c2, c3, a, k, c4, hs⟩ := VC_of hc.now
  have hlt := cell_lt' c0
  refine ⟨b, o, cap, a, k, rfl, fun w2 h2 => ?_⟩
  have hb := h2 b hlo hlt (by intro q; cases q)
  obtain ⟨-, -, -, -, -, a', k', d4, hs'⟩ := VC_of (hc w2 h2)
  have e4 : w2.cell? ⟨b, o + 4, none⟩ = w.cell? ⟨b, o + 4, none⟩ := cell_heap hb _
  rw [e4, c4] at d4
  injection d4 with d4
  injection d4 with e1 _ e3
  subst e1 e3
  exact ⟨(cell_heap hb _).trans c0, (cell_heap hb _).trans c1, (cell_heap hb _).trans c2, (cell_heap hb _).trans c3, (cell_heap hb _).trans c4, hs'⟩
/-- A value in a block, as a list of one. -/
theorem slv_one {w : World} {B : Nat} {x : Vl} {a : Option Addr} {k : Nat} (h : Bk w B #[.int .i64 x.kd, .int .i64 x.nn, .int .i64 x.dd, .string (bs x.ss), .slice a x.ll.length k] 28) (hi : Vin x) (hs : SlV w a x.ll k) : SlV w (some ⟨B, 0, none⟩) [x] 1 := by
  refine ⟨Nat.le_refl _, by decide, (fun q => by cases q), fun _ => ⟨B, 0, rfl, VE_mk fun i hi' => ?_⟩⟩
  have e : i = 0 := by simp at hi'; omega
  subst e
  exact VC_mk hi (h.c 0) (h.c 1) (h.c 2) (h.c 3) (h.c 4) hs
/-- Lists are of moderate length, down to the bottom. -/
def shB : Nat := 1000000
mutual
def shV : Vl → Bool
  | .mk _ _ _ _ l => decide (l.length ≤ shB) && shL l
def shL : List Vl → Bool
  | [] => true
  | v :: r => shV v && shL r
end
theorem shV_ll {x : Vl} (h : shV x = true) : x.ll.length ≤ 1000000 ∧ shL x.ll = true := by
  cases x with
  | mk k n d s l =>
    unfold shV at h
    rw [Bool.and_eq_true, decide_eq_true_eq] at h
    exact h
end Go.Proofs.YtdalienglcpjbaaGreatDoor

/-! CpG; DagA: texts of one kind in one file; each part says what it holds. -/

/-! Slices of structs that a call has built: properties, nodes and edges, each with what lies inside it. No program's function is walked here. -/
namespace Go.Proofs.YtdalienglcpjbaaGreatDoor
open Go.RowKit

/-- How elements lie in a row: how many cells, which, what is known of the element, of what lies inside it, and what then holds of the cells. -/
structure Lay (α β : Type) where
  size : Nat
  C : α → β → List Value
  I : α → Prop
  J : α → β → World → Prop
  P : World → α → Nat → Nat → Prop
  len : ∀ x m, (C x m).length = size
  pos : 0 < size
  row : ∀ w x m b o, I x → J x m w → (∀ j, j < size → w.cell? ⟨b, o + j, none⟩ = (C x m)[j]?) → P w x b o
section
variable {α β : Type} (Y : Lay α β)
def Lay.cs (ps : List (α × β)) : List Value := ps.flatMap fun p => Y.C p.1 p.2
theorem Lay.cs_app (a b : List (α × β)) : Y.cs (a ++ b) = Y.cs a ++ Y.cs b := by unfold Lay.cs; rw [List.flatMap_append]
theorem Lay.cs_one (p : α × β) : Y.cs [p] = Y.C p.1 p.2 := by unfold Lay.cs; simp
theorem Lay.cs_len : ∀ ps : List (α × β), (Y.cs ps).length = ps.length * Y.size
  | [] => by unfold Lay.cs; simp
  | p :: r => by
    show (Y.C p.1 p.2 ++ Y.cs r).length = _
    rw [List.length_append, Lay.cs_len r, List.length_cons, Y.len, Nat.add_mul, Nat.one_mul, Nat.add_comm]
theorem Lay.cs_get : ∀ (ps : List (α × β)) (i j : Nat) (h : i < ps.length), j < Y.size → (Y.cs ps)[i * Y.size + j]? = (Y.C ps[i].1 ps[i].2)[j]?
  | p :: r, 0, j, _, hj => by
    show (Y.C p.1 p.2 ++ Y.cs r)[0 * Y.size + j]? = _
    rw [Nat.zero_mul, Nat.zero_add, List.getElem?_append_left (by rw [Y.len]; exact hj)]
    rfl
  | p :: r, i + 1, j, h, hj => by
    show (Y.C p.1 p.2 ++ Y.cs r)[(i + 1) * Y.size + j]? = _
    have e : (i + 1) * Y.size + j = Y.size + (i * Y.size + j) := by rw [Nat.add_mul, Nat.one_mul]; omega
    rw [e, List.getElem?_append_right (by rw [Y.len]; omega), Y.len, Nat.add_sub_cancel_left, Lay.cs_get r i j (by simpa using h) hj]
    rfl
/-- What lies inside the elements. -/
def Lay.Ns (ps : List (α × β)) (w : World) : Prop := ∀ p ∈ ps, Y.J p.1 p.2 w
theorem Lay.Ns_nil (w : World) : Y.Ns [] w := fun _ h => by cases h
variable {Y}
theorem Lay.Ns_snoc {ps : List (α × β)} {p : α × β} {w : World} (h : Y.Ns ps w) (k : Y.J p.1 p.2 w) : Y.Ns (ps ++ [p]) w := fun q hq => by
  rcases List.mem_append.1 hq with e | e
  · exact h q e
  · rw [List.mem_singleton] at e; subst e; exact k
theorem Lay.sl_own {T : TypeId} {w : World} {base : Nat} {v : Value} {n : Nat} {ps : List (α × β)} (h : w.ownsRow base T Y.size v n (Y.cs ps)) (hv : ∀ p ∈ ps, Y.I p.1) (hn : Y.Ns ps w) :
    ∃ ao cap, v = .slice ao ps.length cap ∧ n = ps.length ∧ Sl Y.size Y.P w ao (ps.map Prod.fst) cap := by
  have hl := h.1
  rw [Y.cs_len] at hl
  obtain rfl : n = ps.length := (Nat.eq_of_mul_eq_mul_right Y.pos hl).symm
  rcases h.2 with ⟨rfl, h0⟩ | ⟨g, cap, cur, rfl, hb, hh, h1, h2, h3, h4⟩
  · have e : ps = [] := List.eq_nil_of_length_eq_zero h0
    subst e
    exact ⟨none, 0, rfl, rfl, Sl.empty _⟩
  · refine ⟨_, cap, rfl, rfl, by rw [List.length_map]; exact h1, h2, (fun k => by cases k), fun _ => ⟨g, 0, rfl, fun i hi => ?_⟩⟩
    rw [List.length_map] at hi
    rw [List.getElem_map]
    have hm : ps[i] ∈ ps := List.getElem_mem hi
    refine Y.row w _ _ g _ (hv _ hm) (hn _ hm) fun j hj => ?_
    have k := h.cellAt (i * Y.size + j) (by
      calc i * Y.size + j < i * Y.size + Y.size := by omega
        _ = (i + 1) * Y.size := by rw [Nat.add_mul, Nat.one_mul]
        _ ≤ ps.length * Y.size := Nat.mul_le_mul_right _ hi)
    rw [Y.cs_get ps i j hi hj] at k
    rwa [Nat.zero_add]
/-- A list so built. -/
def Lay.Built (Y : Lay α β) (lo : Nat) (l : List α) (v : Value) (w : World) : Prop := ∃ ao cap, v = .slice ao l.length cap ∧ Kb lo none w (fun w2 => Sl Y.size Y.P w2 ao l cap)
theorem Lay.built_own {T : TypeId} {w : World} {base : Nat} {v : Value} {n : Nat} {ps : List (α × β)} (h : w.ownsRow base T Y.size v n (Y.cs ps)) (hv : ∀ p ∈ ps, Y.I p.1) (hn : Kb base v.ownBlock w (Y.Ns ps)) : Y.Built base (ps.map Prod.fst) v w := by
  obtain ⟨ao, cap, e, e2, -⟩ := Lay.sl_own h hv hn.now
  refine ⟨ao, cap, by rw [List.length_map]; exact e, fun w2 h2 => ?_⟩
  have ho : w2.ownsRow base T Y.size v n (Y.cs ps) := own_heap h fun g hg => h2 g (h.lt g hg).1 (h.lt g hg).2 (by intro q; cases q)
  obtain ⟨ao', cap', e', -, hs⟩ := Lay.sl_own ho hv (hn w2 fun b h1 hlt _ => h2 b h1 hlt (by intro q; cases q))
  rw [e] at e'
  cases e'
  exact hs
end
theorem take_fsts {α β : Type} {l : List α} {ps : List (α × β)} {i : Nat} (h : l.take i = ps.map Prod.fst) (hi : i < l.length) (m : β) : l.take (i + 1) = (ps ++ [(l[i], m)]).map Prod.fst := by
  rw [List.take_succ_eq_append_getElem hi, h, List.map_append]; rfl
/-! The three. -/
abbrev AC := Option Addr × Nat
def pC (p : Pp) (m : AC) : List Value := .string (bs p.k) :: vC p.v m.1 m.2
def LP : Lay Pp AC where
  size := 6
  C := pC
  I p := p.k.length ≤ maxLen ∧ Vin p.v
  J p m w := SlV w m.1 p.v.ll m.2
  P := PC
  len _ _ := rfl
  pos := by decide
  row w p m b o h1 h2 hc := ⟨h1.1, hc 0 (by decide), VC_mk h1.2 (hc 1 (by decide)) (hc 2 (by decide)) (hc 3 (by decide)) (hc 4 (by decide)) (hc 5 (by decide)) h2⟩
def LN : Lay Nd (AC × AC) where
  size := 3
  C n m := [.int .i64 n.id, .slice m.1.1 n.ls.length m.1.2, .slice m.2.1 n.ps.length m.2.2]
  I n := I64 n.id
  J n m w := SlS w m.1.1 n.ls m.1.2 ∧ SlP w m.2.1 n.ps m.2.2
  P := NC
  len _ _ := rfl
  pos := by decide
  row w n m b o h1 h2 hc := ⟨h1, hc 0 (by decide), ⟨_, _, hc 1 (by decide), h2.1⟩, _, _, hc 2 (by decide), h2.2⟩
def LE : Lay Ed AC where
  size := 5
  C e m := [.int .i64 e.id, .int .i64 e.fr, .int .i64 e.to, .string (bs e.ty), .slice m.1 e.ps.length m.2]
  I e := I64 e.id ∧ I64 e.fr ∧ I64 e.to ∧ e.ty.length ≤ maxLen
  J e m w := SlP w m.1 e.ps m.2
  P := EC
  len _ _ := rfl
  pos := by decide
  row w e m b o h1 h2 hc := ⟨h1.1, h1.2.1, h1.2.2.1, h1.2.2.2, hc 0 (by decide), hc 1 (by decide), hc 2 (by decide), hc 3 (by decide), _, _, hc 4 (by decide), h2⟩
theorem PC_in {w : World} {p : Pp} {b o : Nat} (h : PC w p b o) : LP.I p := ⟨h.1, (VC_of h.2.2).1⟩
theorem NC_in {w : World} {n : Nd} {b o : Nat} (h : NC w n b o) : LN.I n := h.1
theorem EC_in {w : World} {e : Ed} {b o : Nat} (h : EC w e b o) : LE.I e := ⟨h.1, h.2.1, h.2.2.1, h.2.2.2.1⟩
theorem Sl.ins {α : Type} {size : Nat} {P : World → α → Nat → Nat → Prop} {I : α → Prop} {w : World} {ao : Option Addr} {l : List α} {cap : Nat} (h : Sl size P w ao l cap) (hi : ∀ x b o, P w x b o → I x) : ∀ x ∈ l, I x := fun x hx => by
  obtain ⟨j, hj, rfl⟩ := List.getElem_of_mem hx
  obtain ⟨b, o, -, k⟩ := h.get hj
  exact hi _ _ _ k
end Go.Proofs.YtdalienglcpjbaaGreatDoor

/-! A region that draws its order, told by what each of its slots holds once it is written: every operation is looked at once, in whatever state the region may be in when it comes up, and not once for each order. No program here. -/
namespace Go.Proofs.YtdalienglcpjbaaGreatDoor
open Go

/-- The place in the region of the operation that writes slot t. -/
def wrote (ops : Array Oper) (t : Nat) : Option Nat := (List.range ops.size).find? fun i => (ops[i]?).bind (·.dst) == some t
/-- Slot t has its last value: no operation of the region writes it, or the one that does has been. -/
def hasIt (ops : Array Oper) (listed : Array Bool) (t : Nat) : Bool := match wrote ops t with | none => true | some i => listed.getD i false
/-- No two operations write one slot, and all slots lie in the frame. -/
def oneWriter (ops : Array Oper) (N : Nat) : Bool := (List.range ops.size).all fun i => match (ops[i]?).bind (·.dst) with | some d => decide (d < N) && (wrote ops d == some i) | none => true
/-- Each operation waits for earlier ones alone. -/
def backward (ops : Array Oper) : Bool := (List.range ops.size).all fun i => match ops[i]? with | some o => o.after.all fun e => decide (e.on < i) | none => true
/-- What operation i reads: slots that none writes, or that are written by operations for which it waits. -/
def needOk (ops : Array Oper) (N i : Nat) (need : List Nat) : Bool := match ops[i]? with
  | some o => need.all fun t => decide (t < N) && (match wrote ops t with | none => true | some j => o.after.any fun e => e.on == j && Region.binds .any e)
  | none => false

theorem wrote_some {ops : Array Oper} {t i : Nat} (h : wrote ops t = some i) : i < ops.size ∧ (ops[i]?).bind (·.dst) = some t := by
  unfold wrote at h
  have h1 := List.find?_some h
  have h2 := List.mem_of_find?_eq_some h
  exact ⟨List.mem_range.1 h2, by simpa using h1⟩

/-- The midst of a region. -/
structure Mid (ops : Array Oper) (N : Nat) (S : World → Prop) (U : Nat → World → Value → Prop) (listed : Array Bool) (a : Act) (w : World) : Prop where
  size : listed.size = ops.size
  tmps : a.tmps.size = N
  defers : a.defers = []
  st : S w
  val : ∀ t, t < N → hasIt ops listed t = true → U t w (a.tmps.getD t undef)

section
variable {P : Program} {ops : Array Oper} {Q : Exit → Act → World → Prop} {N : Nat} {S : World → Prop} {U : Nat → World → Value → Prop}

theorem Mid.put {listed : Array Bool} {a : Act} {w w' : World} {i d : Nat} {o : Oper} {v : Value} (h : Mid ops N S U listed a w) (h1 : oneWriter ops N = true) (ho : ops[i]? = some o) (hd : o.dst = some d)
    (hS : S w') (hm : ∀ t u, U t w u → U t w' u) (hv : U d w' v) : Mid ops N S U (listed.setIfInBounds i true) (a.put (some d) v) w' := by
  have hi : i < ops.size := (Array.getElem?_eq_some_iff.1 ho).1
  have h2 := List.all_eq_true.1 h1 i (List.mem_range.2 hi)
  have e0 : (ops[i]?).bind (·.dst) = some d := by rw [ho]; exact hd
  rw [e0] at h2
  have h3 : d < N ∧ wrote ops d = some i := by simpa using h2
  refine ⟨by simpa using h.size, by simpa [Act.put] using h.tmps, h.defers, hS, fun t ht hh => ?_⟩
  by_cases htd : t = d
  · subst htd
    have hb : t < a.tmps.size := by rw [h.tmps]; exact ht
    simpa [Act.put, Array.getD_eq_getD_getElem?, hb] using hv
  · have e1 : (a.put (some d) v).tmps.getD t undef = a.tmps.getD t undef := by
      simp [Act.put, Array.getD_eq_getD_getElem?, Ne.symm htd]
    rw [e1]
    refine hm t _ (h.val t ht ?_)
    unfold hasIt at hh ⊢
    cases hw : wrote ops t with
    | none => rfl
    | some j =>
      rw [hw] at hh
      simp only at hh ⊢
      have hji : i ≠ j := by
        rintro rfl
        have := (wrote_some hw).2
        rw [e0] at this
        exact htd (by injection this with k; exact k.symm)
      simpa [Array.getD_eq_getD_getElem?, Array.getElem?_setIfInBounds, hji] using hh

/-- How many operations are still to come. -/
def restD (ops : Array Oper) (listed : Array Bool) : Nat := ((List.range ops.size).filter fun i => !listed.getD i true).length
theorem restD_set {listed : Array Bool} {i : Nat} (hi : i ∈ Region.ready .any ops listed) : restD ops (listed.setIfInBounds i true) < restD ops listed := by
  have h0 := (mem_ready.1 hi).1
  have hs : i < ops.size := by
    obtain ⟨_, o, ho, _⟩ := mem_ready.1 hi
    exact (Array.getElem?_eq_some_iff.1 ho).1
  have hl : i < listed.size := by
    rcases Nat.lt_or_ge i listed.size with k | k
    · exact k
    · rw [Array.getD_eq_getD_getElem?, Array.getElem?_eq_none k] at h0; cases h0
  have gen : ∀ l : List Nat, (l.filter fun j => !(listed.setIfInBounds i true).getD j true).length ≤ (l.filter fun j => !listed.getD j true).length ∧
      (i ∈ l → (l.filter fun j => !(listed.setIfInBounds i true).getD j true).length < (l.filter fun j => !listed.getD j true).length) := by
    intro l
    induction l with
    | nil => exact ⟨Nat.le_refl _, fun h => by cases h⟩
    | cons j l ih =>
      obtain ⟨i1, i2⟩ := ih
      by_cases hji : i = j
      · subst hji
        have e1 : (listed.setIfInBounds i true).getD i true = true := by simp [Array.getD_eq_getD_getElem?, hl]
        simp only [List.filter_cons, e1, h0, Bool.not_true, Bool.not_false, if_true, Bool.false_eq_true, if_false, List.length_cons]
        exact ⟨by omega, fun _ => by omega⟩
      · have e1 : (listed.setIfInBounds i true).getD j true = listed.getD j true := by simp [Array.getD_eq_getD_getElem?, hji]
        simp only [List.filter_cons, e1]
        cases listed.getD j true
        · simp only [Bool.not_false, if_true, List.length_cons]
          refine ⟨by omega, fun h => ?_⟩
          rcases List.mem_cons.1 h with k | k
          · exact absurd k hji
          · have := i2 k; omega
        · simp only [Bool.not_true, Bool.false_eq_true, if_false]
          refine ⟨i1, fun h => ?_⟩
          rcases List.mem_cons.1 h with k | k
          · exact absurd k hji
          · exact i2 k
  exact (gen _).2 (List.mem_range.2 hs)

theorem all_there {listed : Array Bool} (h2 : backward ops = true) (hs : listed.size = ops.size) (hr : Region.ready .any ops listed = []) : ∀ i, i < ops.size → listed.getD i false = true := by
  intro i
  induction i using Nat.strongRecOn with
  | _ i ih =>
    intro hi
    cases hl : listed.getD i false
    · exfalso
      have hmem : i ∈ Region.ready .any ops listed := by
        refine mem_ready.2 ⟨?_, ops[i], Array.getElem?_eq_getElem hi, fun e he _ => ?_⟩
        · have hb : i < listed.size := by omega
          rw [Array.getD_eq_getD_getElem?, Array.getElem?_eq_getElem hb] at hl ⊢
          exact hl
        · have k := List.all_eq_true.1 h2 i (List.mem_range.2 hi)
          rw [Array.getElem?_eq_getElem hi] at k
          have k2 := Array.all_eq_true_iff_forall_mem.1 k e he
          have k3 : e.on < i := by simpa using k2
          exact ih e.on k3 (by omega)
      rw [hr] at hmem
      cases hmem
    · rfl

/-- A frame out of its slots. -/
def frameD (N : Nat) (x : Nat → Value) : Act := ⟨((List.range N).map x).toArray, []⟩
theorem frameD_of {a : Act} (h1 : a.tmps.size = N) (h2 : a.defers = []) : a = frameD N fun t => a.tmps.getD t undef := by
  obtain ⟨⟨l⟩, d⟩ := a
  simp only at h1 h2
  subst h2
  unfold frameD
  congr 1
  apply Array.ext
  · simp; simpa using h1
  · intro i h3 h4
    simp
    rw [List.getElem?_eq_getElem (by simpa using h3)]
    rfl

end
/-- Of which slots it must be told what they hold at the start. -/
def startOk (ops : Array Oper) (N : Nat) (ks L : List Nat) : Bool := (List.range N).all fun t => !hasIt ops (Array.replicate ops.size false) t || ks.getD t 0 == 0 || L.contains t
theorem start_of {ops : Array Oper} {N : Nat} {ks L : List Nat} (h : startOk ops N ks L = true) : ∀ t, t < N → hasIt ops (Array.replicate ops.size false) t = true → ks.getD t 0 = 0 ∨ t ∈ L := by
  intro t ht hh
  have k := List.all_eq_true.1 h t (List.mem_range.2 ht)
  rw [hh] at k
  rcases Bool.or_eq_true_iff.1 k with k | k
  · exact .inl (by simpa using k)
  · exact .inr (List.contains_iff_mem.1 k)
theorem upto_nil {p : Nat → Prop} : ∀ i, i < 0 → p i := fun _ h => absurd h (by omega)
theorem upto_succ {p : Nat → Prop} {n : Nat} (h : ∀ i, i < n → p i) (hn : p n) : ∀ i, i < n + 1 → p i := fun i hi => by
  rcases Nat.lt_or_ge i n with k | k
  · exact h i k
  · have e : i = n := by omega
    subst e
    exact hn
end Go.Proofs.YtdalienglcpjbaaGreatDoor
