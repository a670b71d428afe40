/-
  GsL; CpM: texts of one kind in one file; each part says what it holds.
-/
import Derived.Test.YtkcmakfmeioakaaGreatM12
import Derived.Test.YtkcmakfmeioakaaGreatM23
import Derived.Test.YtkcmakfmeioakaaGreatM04

/-! The reference of package graph: SameStrs and SameProps of any two slices. What was there does not turn. -/
namespace Go.Proofs.YtkcmakfmeioakaaGreat
open Go.RowKit

def eqS (x y : List UInt8) : Bool := x == y
set_option maxHeartbeats 1600000 in
set_option maxRecDepth 100000 in
theorem rsstr_any (a b : List (List UInt8)) (ao bo : Option Addr) (ca cb : Nat) (w : World) (ha : SlS w ao a ca) (hb : SlS w bo b cb) :
    Calls Tryz.prog 35 #[.slice ao a.length ca, .slice bo b.length cb] w (FwB w (al2 eqS a b)) := by
  have la := ha.len
  have lb := hb.len
  have HA := Lib.hid ha
  have HB := Lib.hid hb
  clear ha hb
  obtain ⟨R, hR⟩ : ∃ R, R = al2 eqS a b := ⟨_, rfl⟩
  rw [← hR]
  have HR := Lib.hid hR
  clear hR
  by_cases hl : a.length = b.length
  · have HL := Lib.hid hl
    have hq : ((a.length : Int) != (b.length : Int)) = false := by rw [hl]; simp
    have hS := Lib.hid (show R = al2 eqS (a.drop 0) (b.drop 0) from HR.out)
    clear hl
    go_enter Tryz.func35, Tryz.ntmps35
    go_wp2
    clear hq
    go_loopw [5] (fun iv wr => ∃ i : Nat, iv = .int .i64 i ∧ i ≤ a.length ∧ Hid (R = al2 eqS (a.drop i) (b.drop i)) ∧ Hid (Fuw w wr)) (fun iv _ => a.length - (RowKit.intOf iv).toNat)
    case atStart => exact ⟨0, rfl, Nat.zero_le _, hS, Fuw.refl _⟩
    case round =>
      obtain ⟨i, rfl, hi, HQ, hf⟩ := hrel
      by_cases hlt : i < a.length
      · have hlb : i < b.length := by have := HL.out; omega
        obtain ⟨g, o, rfl, -, c0⟩ := (slS_on hf.out HA.out).get hlt
        obtain ⟨g', o', rfl, -, d0⟩ := (slS_on hf.out HB.out).get hlb
        have HD := Lib.hid (HQ.out.trans (al2_drop eqS a b i hlt hlb))
        rw [Nat.mul_one] at c0 d0
        generalize a[i] = x at *
        generalize b[i] = y at *
        cases hr : ((bs x).toList == (bs y).toList) with
        | false =>
          have HZ := Lib.hid (show R = false by
            rw [bs_eq] at hr
            rw [HD.out]
            unfold eqS
            rw [hr]; rfl)
          have hn : ((bs x).toList != (bs y).toList) = true := by rw [bne, hr]; rfl
          go_wp2
          go_quiet (fail)
          clear hn hr
          go_wp2
          go_ret
          exact ⟨ret_bool HZ.out.symm, hf.out.trans (fuw_dr _ _)⟩
        | true =>
          have HZ := Lib.hid (show R = al2 eqS (a.drop (i + 1)) (b.drop (i + 1)) by
            rw [bs_eq] at hr
            rw [HD.out]
            unfold eqS
            rw [hr]; rfl)
          have hn : ((bs x).toList != (bs y).toList) = false := by rw [bne, hr]; rfl
          go_wp2
          go_quiet (fail)
          clear hn hr
          go_wp2
          go_roundw
          case rel => exact ⟨i + 1, by go_num, by omega, HZ, hf.out.trans (fuw_dr _ _)⟩
          case measure => simp [RowKit.intOf]; omega
      · have HZ := Lib.hid (show R = true by rw [HQ.out, al2_end _ _ _ _ (by omega) (by have := HL.out; omega)])
        go_wp2
        go_ret
        exact ⟨ret_bool HZ.out.symm, hf.out⟩
  · have HZ := Lib.hid (show R = false by rw [HR.out]; exact al2_len _ _ _ hl)
    have hq : ((a.length : Int) != (b.length : Int)) = true := by rw [bne_iff_ne]; omega
    clear hl
    go_enter Tryz.func35, Tryz.ntmps35
    go_wp2
    go_ret
    exact ⟨ret_bool HZ.out.symm, Fuw.refl _⟩
set_option maxHeartbeats 3200000 in
set_option maxRecDepth 100000 in
theorem rsprop_any (a l : List Pp) (ao bo : Option Addr) (ca cb : Nat) (w : World) (ha : SlP w ao a ca) (hb : SlP w bo l cb) :
    Calls Tryz.prog 36 #[.slice ao a.length ca, .slice bo l.length cb] w (FwB w (al2 samP a l)) := by
  have la := ha.len
  have lb := hb.len
  have HA := Lib.hid ha
  have HB := Lib.hid hb
  clear ha hb
  obtain ⟨R, hR⟩ : ∃ R, R = al2 samP a l := ⟨_, rfl⟩
  rw [← hR]
  have HR := Lib.hid hR
  clear hR
  by_cases hl : a.length = l.length
  · have HL := Lib.hid hl
    have hq : ((a.length : Int) != (l.length : Int)) = false := by rw [hl]; simp
    have hS := Lib.hid (show R = al2 samP (a.drop 0) (l.drop 0) from HR.out)
    clear hl
    go_enter Tryz.func36, Tryz.ntmps36
    go_wp2
    clear hq
    go_loopw [5] (fun iv wr => ∃ i : Nat, iv = .int .i64 i ∧ i ≤ a.length ∧ Hid (R = al2 samP (a.drop i) (l.drop i)) ∧ Hid (Fuw w wr)) (fun iv _ => a.length - (RowKit.intOf iv).toNat)
    case atStart => exact ⟨0, rfl, Nat.zero_le _, hS, Fuw.refl _⟩
    case round =>
      obtain ⟨i, rfl, hi, HQ, hf⟩ := hrel
      by_cases hlt : i < a.length
      · have hlb : i < l.length := by have := HL.out; omega
        have hlt2 : (i : Int) < (a.length : Int) := by omega
        have hlb2 : (i : Int) < (l.length : Int) := by omega
        obtain ⟨b, o, rfl, -, k0, hv⟩ := (slP_on hf.out HA.out).get hlt
        obtain ⟨b', o', rfl, -, k0', hv'⟩ := (slP_on hf.out HB.out).get hlb
        obtain ⟨hy, c0, c1, c2, c3, a1, k1, c4, hs1⟩ := VC_of hv
        obtain ⟨hy', d0, d1, d2, d3, a2, k2, d4, hs2⟩ := VC_of hv'
        have HC := Lib.hid (fun w' (hf' : Fuw wr w') => rorder_all a[i].v l[i].v a1 a2 k1 k2 w' hy hy' (hs1.onw hf') (hs2.onw hf'))
        have HD := Lib.hid (show R = (((a[i].k == l[i].k) && (ordV a[i].v l[i].v == 0)) && al2 samP (a.drop (i + 1)) (l.drop (i + 1))) from HQ.out.trans (al2_drop samP a l i hlt hlb))
        unfold vlv at HC
        clear hv hv' hs1 hs2 hy hy'
        generalize ordV a[i].v l[i].v = d at *
        generalize a[i].v = x at *
        generalize a[i].k = key at *
        generalize l[i].v = y at *
        generalize l[i].k = key' at *
        go_upto_region 6 with fail
        cases hr : ((bs key).toList == (bs key').toList) with
        | false =>
          have HZ := Lib.hid (show R = false by
            rw [bs_eq] at hr
            rw [HD.out, hr]; rfl)
          have hn : ((bs key).toList != (bs key').toList) = true := by rw [bne, hr]; rfl
          go_quiet (fail)
          clear hn hr
          go_wp2
          go_ret
          exact ⟨ret_bool HZ.out.symm, hf.out.trans (fuw_dr _ _)⟩
        | true =>
          have HE := Lib.hid (show R = ((d == 0) && al2 samP (a.drop (i + 1)) (l.drop (i + 1))) by
            rw [bs_eq] at hr
            rw [HD.out, hr]; rfl)
          have hn : ((bs key).toList != (bs key').toList) = false := by rw [bne, hr]; rfl
          have ff : Fuw wr wr.drew := Fuw.drew (Fuw.refl wr)
          go_region_held3 (fun w' => w'.cell? ⟨b, o + i * 6, none⟩ = some (.string (bs key)) ∧ w'.cell? ⟨b, o + i * 6 + 1, none⟩ = some (.int .i64 x.kd) ∧ w'.cell? ⟨b, o + i * 6 + 1 + 1, none⟩ = some (.int .i64 x.nn) ∧ w'.cell? ⟨b, o + i * 6 + 1 + 2, none⟩ = some (.int .i64 x.dd) ∧ w'.cell? ⟨b, o + i * 6 + 1 + 3, none⟩ = some (.string (bs x.ss)) ∧ w'.cell? ⟨b, o + i * 6 + 1 + 4, none⟩ = some (.slice a1 x.ll.length k1) ∧ w'.cell? ⟨b', o' + i * 6, none⟩ = some (.string (bs key')) ∧ w'.cell? ⟨b', o' + i * 6 + 1, none⟩ = some (.int .i64 y.kd) ∧ w'.cell? ⟨b', o' + i * 6 + 1 + 1, none⟩ = some (.int .i64 y.nn) ∧ w'.cell? ⟨b', o' + i * 6 + 1 + 2, none⟩ = some (.int .i64 y.dd) ∧ w'.cell? ⟨b', o' + i * 6 + 1 + 3, none⟩ = some (.string (bs y.ss)) ∧ w'.cell? ⟨b', o' + i * 6 + 1 + 4, none⟩ = some (.slice a2 y.ll.length k2))
            (first | exact ⟨cellOnw ff k0, cellOnw ff c0, cellOnw ff c1, cellOnw ff c2, cellOnw ff c3, cellOnw ff c4, cellOnw ff k0', cellOnw ff d0, cellOnw ff d1, cellOnw ff d2, cellOnw ff d3, cellOnw ff d4⟩)
            (first | (go_at_call 47; refine (HC.out _ ff).mono ?_; rintro e w4 ⟨rfl, f4⟩; replace ff := ff.trans f4))
          all_goals
            clear hn hr
            have HF := Lib.hid (hf.out.trans ff)
            clear ff
            by_cases hd : d = 0
            · have HZ := Lib.hid (show R = al2 samP (a.drop (i + 1)) (l.drop (i + 1)) by rw [HE.out, hd]; rfl)
              subst hd
              go_wp2
              go_roundw
              case rel => exact ⟨i + 1, by go_num, by omega, HZ, HF⟩
              case measure => simp [RowKit.intOf]; omega
            · have HZ := Lib.hid (show R = false by rw [HE.out, beq_eq_false_iff_ne.2 hd]; rfl)
              have hd' : (d != 0) = true := by rw [bne_iff_ne]; exact hd
              clear hd
              go_wp2
              go_ret
              exact ⟨ret_bool HZ.out.symm, HF.out⟩
      · have HZ := Lib.hid (show R = true by rw [HQ.out, al2_end _ _ _ _ (by omega) (by have := HL.out; omega)])
        go_wp2
        go_ret
        exact ⟨ret_bool HZ.out.symm, hf.out⟩
  · have HZ := Lib.hid (show R = false by rw [HR.out]; exact al2_len _ _ _ hl)
    have hq : ((a.length : Int) != (l.length : Int)) = true := by rw [bne_iff_ne]; omega
    clear hl
    go_enter Tryz.func36, Tryz.ntmps36
    go_wp2
    go_ret
    exact ⟨ret_bool HZ.out.symm, Fuw.refl _⟩
end Go.Proofs.YtkcmakfmeioakaaGreat

/-! What a call has built lies in blocks of its own: 'P holds in every world with the same blocks from lo on, but for the block o'. Lists of values so built. No program's function is walked here. -/
namespace Go.Proofs.YtkcmakfmeioakaaGreat
open Go.RowKit

def Kb (lo : Nat) (o : Option Nat) (w : World) (P : World → Prop) : Prop :=
  ∀ w2 : World, (∀ b, lo ≤ b → b < w.heap.size → some b ≠ o → w2.heap[b]? = w.heap[b]?) → P w2
section
variable {lo s : Nat} {o o' : Option Nat} {w w' : World} {P Q : World → Prop}
theorem Kb.now (h : Kb lo o w P) : P w := h w fun _ _ _ _ => rfl
theorem Kb.imp (h : Kb lo o w P) (hp : ∀ x, P x → Q x) : Kb lo o w Q := fun w2 h2 => hp _ (h w2 h2)
theorem Kb.and (h : Kb lo o w P) (k : Kb lo o w Q) : Kb lo o w (fun x => P x ∧ Q x) := fun w2 h2 => ⟨h w2 h2, k w2 h2⟩
theorem Kb.triv (hp : ∀ x, P x) : Kb lo o w P := fun w2 _ => hp w2
/-- Later, when only o's block may have turned. -/
theorem Kb.on (h : Kb lo o w P) (hs : w.heap.size ≤ w'.heap.size) (hb : ∀ b, lo ≤ b → b < w.heap.size → some b ≠ o → w'.heap[b]? = w.heap[b]?) (ho : o' = o ∨ ∀ k, o' = some k → w.heap.size ≤ k) : Kb lo o' w' P := by
  intro w2 h2
  refine h w2 fun b h1 hlt hne => ?_
  rw [h2 b h1 (Nat.lt_of_lt_of_le hlt hs) ?_, hb b h1 hlt hne]
  rcases ho with e | e
  · rw [e]; exact hne
  · intro q
    have := e b q.symm
    omega
theorem Kb.later (h : Kb lo o w P) (hf : Fuw w w') : Kb lo o w' P := h.on hf.size (fun b _ hb _ => Below.block hf b hb) (.inl rfl)
theorem Kb.low (h : Kb s none w P) (hl : lo ≤ s) (ho : ∀ k, o = some k → k < s ∨ w.heap.size ≤ k) : Kb lo o w P := by
  intro w2 h2
  refine h w2 fun b h1 hlt _ => h2 b (by omega) hlt ?_
  intro q
  rcases ho b q.symm with k | k <;> omega
theorem Kb.grown {v v' : Value} (h : Kb lo v.ownBlock w P) (hg : w.grownBy w' v.ownBlock) (hat : v'.ownBlock = v.ownBlock ∨ v'.ownBlock = some w.heap.size) : Kb lo v'.ownBlock w' P :=
  h.on hg.size (fun b _ h2 h3 => hg.block b h2 h3) (by
    rcases hat with e | e
    · exact .inl e
    · refine .inr fun k hk => ?_
      rw [e] at hk; injection hk with hk; omega)
end
/-- A value's five cells. -/
def vC (x : Vl) (ao : Option Addr) (cap : Nat) : List Value := [.int .i64 x.kd, .int .i64 x.nn, .int .i64 x.dd, .string (bs x.ss), .slice ao x.ll.length cap]
abbrev VPm := Vl × Option Addr × Nat
def vCs (ps : List VPm) : List Value := ps.flatMap fun p => vC p.1 p.2.1 p.2.2
theorem vCs_app (a b : List VPm) : vCs (a ++ b) = vCs a ++ vCs b := by unfold vCs; rw [List.flatMap_append]
theorem vCs_one (p : VPm) : vCs [p] = vC p.1 p.2.1 p.2.2 := by unfold vCs; simp
theorem vCs_len : ∀ ps : List VPm, (vCs ps).length = ps.length * 5
  | [] => rfl
  | p :: r => by
    show (vC p.1 p.2.1 p.2.2 ++ vCs r).length = _
    rw [List.length_append, vCs_len r, List.length_cons]
    show 5 + _ = _
    omega
theorem vCs_get : ∀ (ps : List VPm) (i j : Nat) (h : i < ps.length), j < 5 → (vCs ps)[i * 5 + j]? = (vC ps[i].1 ps[i].2.1 ps[i].2.2)[j]?
  | p :: r, 0, j, _, hj => by
    show (vC p.1 p.2.1 p.2.2 ++ vCs r)[0 * 5 + j]? = _
    rw [Nat.zero_mul, Nat.zero_add, List.getElem?_append_left (by show j < 5; exact hj)]
    rfl
  | p :: r, i + 1, j, h, hj => by
    show (vC p.1 p.2.1 p.2.2 ++ vCs r)[(i + 1) * 5 + j]? = _
    rw [List.getElem?_append_right (by show 5 ≤ _; omega)]
    have k := vCs_get r i j (by simpa using h) hj
    rw [show (i + 1) * 5 + j - (vC p.1 p.2.1 p.2.2).length = i * 5 + j by show _ - 5 = _; omega, k]
    rfl
theorem VE_mk {w : World} : ∀ {l : List Vl} {b o : Nat}, (∀ (i : Nat) (h : i < l.length), VC w l[i] b (o + i * 5)) → VE w l b o
  | [], _, _, _ => by unfold VE; trivial
  | v :: r, b, o, h => by
    unfold VE
    refine ⟨(by have k := h 0 (by simp); rw [Nat.zero_mul, Nat.add_zero] at k; exact k), VE_mk fun i hi => ?_⟩
    have k := h (i + 1) (by simpa using hi)
    rwa [show o + (i + 1) * 5 = o + 5 + i * 5 by omega] at k
/-- What lies inside the values. -/
def Nst (ps : List VPm) (w : World) : Prop := ∀ p ∈ ps, SlV w p.2.1 p.1.ll p.2.2
theorem Nst.nil (w : World) : Nst [] w := fun _ h => by cases h
theorem Nst.snoc {ps : List VPm} {p : VPm} {w : World} (h : Nst ps w) (k : SlV w p.2.1 p.1.ll p.2.2) : Nst (ps ++ [p]) w := fun q hq => by
  rcases List.mem_append.1 hq with e | e
  · exact h q e
  · rw [List.mem_singleton] at e; subst e; exact k
theorem own_heap {w w' : World} {base e size : Nat} {v : Value} {n : Nat} {xs : List Value} (h : w.ownsRow base e size v n xs) (hb : ∀ g, v.ownBlock = some g → w'.heap[g]? = w.heap[g]?) : w'.ownsRow base e size v n xs := by
  refine ⟨h.1, ?_⟩
  rcases h.2 with h0 | ⟨g, cap, cur, rfl, hg, hh, rest⟩
  · exact .inl h0
  · exact .inr ⟨g, cap, cur, rfl, hg, by rw [hb g rfl]; exact hh, rest⟩
theorem slV_own {w : World} {base : Nat} {v : Value} {n : Nat} {ps : List VPm} (h : w.ownsRow base 55 5 v n (vCs ps)) (hv : ∀ p ∈ ps, Vin p.1) (hn : Nst ps w) : ∃ ao cap, v = .slice ao ps.length cap ∧ n = ps.length ∧ SlV w ao (ps.map Prod.fst) cap := by
  have hl := h.1
  rw [vCs_len] at hl
  obtain rfl : n = ps.length := by omega
  rcases h.2 with ⟨rfl, h0⟩ | ⟨g, cap, cur, rfl, hb, hh, h1, h2, h3, h4⟩
  · have e : ps = [] := List.eq_nil_of_length_eq_zero h0
    subst e
    exact ⟨none, 0, rfl, rfl, ⟨Nat.le_refl _, Nat.zero_le _, fun _ => rfl, fun k => absurd k (by decide)⟩⟩
  · refine ⟨_, cap, rfl, rfl, by rw [List.length_map]; exact h1, h2, (fun k => by cases k), fun _ => ⟨g, 0, rfl, VE_mk fun i hi => ?_⟩⟩
    rw [List.length_map] at hi
    rw [List.getElem_map]
    have hc : ∀ j, j < 5 → w.cell? ⟨g, 0 + i * 5 + j, none⟩ = (vC ps[i].1 ps[i].2.1 ps[i].2.2)[j]? := fun j hj => by
      have k := h.cellAt (i * 5 + j) (by omega)
      rw [vCs_get ps i j hi hj] at k
      rwa [Nat.zero_add]
    have hm : ps[i] ∈ ps := List.getElem_mem hi
    exact VC_mk (hv _ hm) (hc 0 (by decide)) (hc 1 (by decide)) (hc 2 (by decide)) (hc 3 (by decide)) (hc 4 (by decide)) (hn _ hm)
/-- A list of values so built. -/
def BuiltV (lo : Nat) (l : List Vl) (v : Value) (w : World) : Prop := ∃ ao cap, v = .slice ao l.length cap ∧ Kb lo none w (fun w2 => SlV w2 ao l cap)
theorem built_own {w : World} {base : Nat} {v : Value} {n : Nat} {ps : List VPm} (h : w.ownsRow base 55 5 v n (vCs ps)) (hv : ∀ p ∈ ps, Vin p.1) (hn : Kb base v.ownBlock w (Nst ps)) : BuiltV base (ps.map Prod.fst) v w := by
  obtain ⟨ao, cap, e, e2, -⟩ := slV_own h hv hn.now
  refine ⟨ao, cap, by rw [List.length_map]; exact e, fun w2 h2 => ?_⟩
  have ho : w2.ownsRow base 55 5 v n (vCs ps) := own_heap h fun g hg => h2 g (h.lt g hg).1 (h.lt g hg).2 (by intro q; cases q)
  obtain ⟨ao', cap', e', -, hs⟩ := slV_own ho hv (hn w2 fun b h1 hlt _ => h2 b h1 hlt (by intro q; cases q))
  rw [e] at e'
  cases e'
  exact hs
/-- A value's cells with what lies inside it. -/
def VCa (x : Vl) (a : Option Addr) (k : Nat) (b o : Nat) (w : World) : Prop := w.cell? ⟨b, o, none⟩ = some (.int .i64 x.kd) ∧ w.cell? ⟨b, o + 1, none⟩ = some (.int .i64 x.nn) ∧ w.cell? ⟨b, o + 2, none⟩ = some (.int .i64 x.dd) ∧ w.cell? ⟨b, o + 3, none⟩ = some (.string (bs x.ss)) ∧ w.cell? ⟨b, o + 4, none⟩ = some (.slice a x.ll.length k) ∧ SlV w a x.ll k
theorem cell_lt' {w : World} {b o : Nat} {v : Value} (h : w.cell? ⟨b, o, none⟩ = some v) : b < w.heap.size := by
  rcases Nat.lt_or_ge b w.heap.size with k | k
  · exact k
  · simp [World.cell?, Array.getElem?_eq_none k] at h
/-- What holds whatever lies below lo speaks of blocks from lo on. -/
theorem kb_lo {lo b o : Nat} {w : World} (h : Kb lo none w (fun w2 => ∃ u, w2.cell? ⟨b, o, none⟩ = some u)) : lo ≤ b := by
  rcases Nat.lt_or_ge b lo with k | k
  · exfalso
    obtain ⟨u, hu⟩ := h { w with heap := w.heap.setIfInBounds b (.cells #[] 0 (0, 0)) } (fun c h1 _ _ => by
      show (w.heap.setIfInBounds b _)[c]? = _
      rw [Array.getElem?_setIfInBounds_ne (by omega)])
    have hb := cell_lt' hu
    have e : (w.heap.setIfInBounds b (.cells #[] 0 (0, 0)))[b]? = some (.cells #[] 0 (0, 0)) := by
      rw [Array.getElem?_setIfInBounds_self]
      rw [if_pos (by simpa using hb)]
    simp [World.cell?, e] at hu
  · exact k
theorem cell_heap {w w2 : World} {b : Nat} (h : w2.heap[b]? = w.heap[b]?) (o : Nat) : w2.cell? ⟨b, o, none⟩ = w.cell? ⟨b, o, none⟩ := World.cell?_of_block h
theorem built_one {lo : Nat} {x : Vl} {v : Value} {w : World} (h : BuiltV lo [x] v w) : ∃ b o c a k, v = .slice (some ⟨b, o, none⟩) 1 c ∧ Kb lo none w (VCa x a k b o) := by
  obtain ⟨ao, cap, rfl, hk⟩ := h
  obtain ⟨b, o, e, hv⟩ := hk.now.get (i := 0) (by simp)
  subst e
  have hc : Kb lo none w (fun w2 => VC w2 x b o) := hk.imp fun w2 h2 => by
    obtain ⟨b', o', e, hv⟩ := h2.get (i := 0) (by simp)
    cases e
    simpa using hv
  have hlo : lo ≤ b := kb_lo (o := o) (hc.imp fun w2 h2 => ⟨_, (VC_of h2).2.1⟩)
  obtain ⟨-, c0, c1, c2, c3, a, k, c4, hs⟩ := VC_of hc.now
  have hlt := cell_lt' c0
  refine ⟨b, o, cap, a, k, rfl, fun w2 h2 => ?_⟩
  have hb := h2 b hlo hlt (by intro q; cases q)
  obtain ⟨-, -, -, -, -, a', k', d4, hs'⟩ := VC_of (hc w2 h2)
  have e4 : w2.cell? ⟨b, o + 4, none⟩ = w.cell? ⟨b, o + 4, none⟩ := cell_heap hb _
  rw [e4, c4] at d4
  injection d4 with d4
  injection d4 with e1 _ e3
  subst e1 e3
  exact ⟨(cell_heap hb _).trans c0, (cell_heap hb _).trans c1, (cell_heap hb _).trans c2, (cell_heap hb _).trans c3, (cell_heap hb _).trans c4, hs'⟩
/-- A value in a block, as a list of one. -/
theorem slv_one {w : World} {B : Nat} {x : Vl} {a : Option Addr} {k : Nat} (h : Bk w B #[.int .i64 x.kd, .int .i64 x.nn, .int .i64 x.dd, .string (bs x.ss), .slice a x.ll.length k] 55) (hi : Vin x) (hs : SlV w a x.ll k) : SlV w (some ⟨B, 0, none⟩) [x] 1 := by
  refine ⟨Nat.le_refl _, by decide, (fun q => by cases q), fun _ => ⟨B, 0, rfl, VE_mk fun i hi' => ?_⟩⟩
  have e : i = 0 := by simp at hi'; omega
  subst e
  exact VC_mk hi (h.c 0) (h.c 1) (h.c 2) (h.c 3) (h.c 4) hs
/-- Lists are of moderate length, down to the bottom. -/
def shB : Nat := 1000000
mutual
def shV : Vl → Bool
  | .mk _ _ _ _ l => decide (l.length ≤ shB) && shL l
def shL : List Vl → Bool
  | [] => true
  | v :: r => shV v && shL r
end
theorem shV_ll {x : Vl} (h : shV x = true) : x.ll.length ≤ 1000000 ∧ shL x.ll = true := by
  cases x with
  | mk k n d s l =>
    unfold shV at h
    rw [Bool.and_eq_true, decide_eq_true_eq] at h
    exact h
theorem shL_mem : ∀ {l : List Vl}, shL l = true → ∀ x ∈ l, shV x = true
  | [], _, _, h => by cases h
  | v :: r, hl, x, h => by
    unfold shL at hl
    rw [Bool.and_eq_true] at hl
    rcases List.mem_cons.1 h with rfl | h
    · exact hl.1
    · exact shL_mem hl.2 x h
end Go.Proofs.YtkcmakfmeioakaaGreat
