/-
  GrL; GrN: texts of one kind in one file; each part says what it holds.
-/
import Derived.Test.YtkcmakfmeioakaaGreatM10
import Derived.Test.YtkcmakfmeioakaaGreatM11
import Derived.Laws.StructEq

/-! Package graph: the entries at a node, in order (Steps). Nothing that was there turns. -/
namespace Go.Proofs.YtkcmakfmeioakaaGreat
open Go.RowKit

theorem infoJ : (Tryz.prog.info? 45).map (fun i => (i.zero, i.size, i.bytes)) = some (some (.agg #[.int .i64 0, .int .i64 0, .int .i64 0]), 3, 24) := by kernel_rfl
theorem stp_drop (es : List Ed) (id : Int) (types : List (List UInt8)) (dir : Int) (i : Nat) (h : i < es.length) :
    stpV (es.drop i) id types dir = (if (hasT es[i].ty types && (acrV es[i] id dir).isSome) = true then [(acrN es[i] id dir, es[i].id)] else []) ++ stpV (es.drop (i + 1)) id types dir := by
  unfold stpV
  rw [List.drop_eq_getElem_cons h, List.filterMap_cons]
  unfold acrN
  cases hasT es[i].ty types
  · rfl
  · cases acrV es[i] id dir <;> rfl
theorem stp_end (es : List Ed) (id : Int) (types : List (List UInt8)) (dir : Int) (i : Nat) (h : es.length ≤ i) : stpV (es.drop i) id types dir = [] := by
  unfold stpV
  rw [List.drop_of_length_le h]; rfl
/-- An entry's three cells. -/
def JC (w : World) (x : Int × Int × Int) (b o : Nat) : Prop := w.cell? ⟨b, o, none⟩ = some (.int .i64 x.1) ∧ w.cell? ⟨b, o + 1, none⟩ = some (.int .i64 x.2.1) ∧ w.cell? ⟨b, o + 2, none⟩ = some (.int .i64 x.2.2)
abbrev SlJ := Sl 3 JC
theorem JC_on {w w' : World} (hf : Fuw w w') {x : Int × Int × Int} {b o : Nat} (h : JC w x b o) : JC w' x b o := ⟨cellOnw hf h.1, cellOnw hf h.2.1, cellOnw hf h.2.2⟩
theorem slJ_on {w w' : World} (hf : Fuw w w') {ao : Option Addr} {l : List (Int × Int × Int)} {cap : Nat} (h : SlJ w ao l cap) : SlJ w' ao l cap := h.onP fun _ _ _ k => JC_on hf k
/-- The entries at a node. -/
def jL (id : Int) (L : List (Int × Int)) : List (Int × Int × Int) := L.map fun x => (id, x.1, x.2)
theorem jL_len (id : Int) (L : List (Int × Int)) : (jL id L).length = L.length := List.length_map ..
theorem slJ_own {w : World} {base e : Nat} {v : Value} {n : Nat} {id : Int} {L : List (Int × Int)} (h : w.ownsRow base e 3 v n (aC id L)) : ∃ ao cap, v = .slice ao (jL id L).length cap ∧ n = L.length ∧ SlJ w ao (jL id L) cap := by
  have hl := h.1
  rw [aC_len] at hl
  have hl' : n = L.length := by omega
  subst hl'
  rcases h.2 with ⟨rfl, h0⟩ | ⟨g, cap, cur, rfl, hb, hh, h1, h2, h3, h4⟩
  · have e := List.length_eq_zero_iff.1 h0
    subst e
    exact ⟨none, 0, rfl, rfl, Sl.empty _⟩
  · refine ⟨_, cap, by rw [jL_len], rfl, by rw [jL_len]; exact h1, h2, (fun k => by cases k), fun _ => ⟨g, 0, rfl, fun j hj => ?_⟩⟩
    rw [jL_len] at hj
    have hx : (jL id L)[j]'(by rw [jL_len]; exact hj) = (id, L[j].1, L[j].2) := by simp [jL]
    have k : ∀ c, c < 3 → w.cell? ⟨g, 0 + j * 3 + c, none⟩ = (aE id L[j])[c]? := fun c hc => by
      rw [Nat.zero_add, h.cellAt (j * 3 + c) (by omega), aC_get id L j c hc hj]
    unfold JC
    rw [hx]
    exact ⟨k 0 (by decide), k 1 (by decide), k 2 (by decide)⟩
def RetJ (w : World) (id : Int) (L : List (Int × Int)) (e : Ending) (w' : World) : Prop := ∃ ao cap, e = .returned (.slice ao (jL id L).length cap) ∧ SlJ w' ao (jL id L) cap ∧ Fuw w w'

set_option maxHeartbeats 6400000 in
set_option maxRecDepth 100000 in
theorem steps_any (g : Gr) (an ae : Option Addr) (cn ce : Nat) (id : Int) (ts : List (List UInt8)) (at_ : Option Addr) (ct : Nat) (dir : Int) (w : World) (hg : GIn w g an ae cn ce) (ht : SlS w at_ ts ct) (hn : g.es.length ≤ 10000) :
    Calls Tryz.prog 11 #[grv g an ae cn ce, .int .i64 id, .slice at_ ts.length ct, .int .i64 dir] w (RetJ w id (adjV g.es id ts dir)) := by
  have HG0 := hg
  have f0 := fuwA w (.cells #[.slice an g.ns.length cn, .slice ae g.es.length ce, .int .i64 g.nn, .int .i64 g.ne] 25)
  obtain ⟨U, hU⟩ : ∃ U, U = stpV g.es id ts dir := ⟨_, rfl⟩
  have HU := Lib.hid (show stpV g.es id ts dir = [] ++ stpV (g.es.drop 0) id ts dir from rfl)
  unfold adjV
  rw [← hU] at HU ⊢
  unfold grv
  obtain ⟨w0, hw0⟩ : ∃ w0, w0 = w.alloc (.cells #[.slice an g.ns.length cn, .slice ae g.es.length ce, .int .i64 g.nn, .int .i64 g.ne] 25) := ⟨_, rfl⟩
  rw [← hw0] at f0
  have HW0 := Lib.hid hw0
  have F0 := Lib.hid f0
  have HE := Lib.hid (slE_on f0 HG0.e)
  have HT := Lib.hid (slS_on f0 ht)
  have nt := ht.len
  obtain ⟨i0, hi, hz0, hz1, hz2⟩ := info_parts infoJ
  clear hw0 f0 HG0 hg ht hU
  go_enter Tryz.func11, Tryz.ntmps11
  go_wp2
  go_loopw [9, 17] (fun lv iv wr => ∃ (i : Nat) (L : List (Int × Int)), iv = .int .i64 i ∧ i ≤ g.es.length ∧ L.length ≤ i ∧ wr.ownsRow w0.heap.size 45 3 lv L.length (aC id L) ∧ Hid (U = L ++ stpV (g.es.drop i) id ts dir) ∧ Hid (Fuw w0 wr)) (fun _ iv _ => g.es.length - (RowKit.intOf iv).toNat)
  case atStart => exact ⟨0, [], rfl, Nat.zero_le _, Nat.le_refl _, World.ownsRow_nil _ _ _ _, HU, by rw [HW0.out]; exact Fuw.refl _⟩
  case round =>
    obtain ⟨i, L, rfl, hii, hL, hown, HQ, hf⟩ := hrel
    by_cases hlt : i < g.es.length
    · obtain ⟨b, o, rfl, i1, i2, i3, hty, c0, c1, c2, c3, ap, cp, c4, hsp⟩ := (slE_on hf.out HE.out).get hlt
      have HA := Lib.hid (stp_drop g.es id ts dir i hlt)
      have HC := Lib.hid (fun w' => across_any g.es[i] ap cp id dir w')
      have HH := Lib.hid (fun w' (hf' : Fuw wr w') => hast_any g.es[i] ap cp ts at_ ct w' (slS_on (hf.out.trans hf') HT.out))
      unfold edv at HC HH
      clear i1 i2 i3 hty hsp
      generalize g.es[i] = e at *
      generalize acrN e id dir = a at *
      generalize (acrV e id dir).isSome = q at *
      generalize hasT e.ty ts = t at *
      go_upto_region 5 with fail
      obtain ⟨W, hW⟩ : ∃ W, W = wr.alloc (.cells #[.int .i64 e.id, .int .i64 e.fr, .int .i64 e.to, .string (bs e.ty), .slice ap e.ps.length cp] 35) := ⟨_, rfl⟩
      have hfW : Fuw wr W := by rw [hW]; exact fuwA _ _
      have hBn : Bk W wr.heap.size #[.int .i64 e.id, .int .i64 e.fr, .int .i64 e.to, .string (bs e.ty), .slice ap e.ps.length cp] 35 := by rw [hW]; exact Bk.new _ _ _
      rw [← hW]
      clear hW c0 c1 c2 c3 c4
      have HBn := Lib.hid hBn
      have d0 := HBn.out.c 0; have d1 := HBn.out.c 1; have d2 := HBn.out.c 2; have d3 := HBn.out.c 3; have d4 := HBn.out.c 4
      simp only [List.getElem?_toArray, List.getElem?_cons_zero, List.getElem?_cons_succ] at d0 d1 d2 d3 d4
      clear hBn
      go_wp2_with fail
      go_at_call 23; refine (HC.out _).mono ?_; rintro e1 w1 ⟨rfl, f1⟩
      have F1 := Lib.hid (hfW.trans f1)
      have HB1 := Lib.hid (HBn.out.on f1)
      clear f1 d0 d1 d2 d3 d4
      cases q
      · have HZ := Lib.hid (show U = L ++ stpV (g.es.drop (i + 1)) id ts dir by rw [HQ.out, HA.out, Bool.and_false]; rfl)
        have hown' := own_on hown F1.out
        have HF := Lib.hid (hf.out.trans F1.out)
        clear hown
        go_wp2
        go_roundw
        case rel => exact ⟨i + 1, L, by go_num, by omega, by omega, hown', HZ, HF⟩
        case measure => simp [RowKit.intOf]; omega
      · have d0 := HB1.out.c 0; have d1 := HB1.out.c 1; have d2 := HB1.out.c 2; have d3 := HB1.out.c 3; have d4 := HB1.out.c 4
        simp only [List.getElem?_toArray, List.getElem?_cons_zero, List.getElem?_cons_succ] at d0 d1 d2 d3 d4
        go_wp2_with fail
        go_at_call 24; refine (HH.out _ F1.out).mono ?_; rintro e2 w2 ⟨rfl, f2⟩
        have F2 := Lib.hid (F1.out.trans f2)
        have HB2 := Lib.hid (HB1.out.on f2)
        clear f2 d0 d1 d2 d3 d4
        have hown' := own_on hown F2.out
        have HF := Lib.hid (hf.out.trans F2.out)
        clear hown
        cases t
        · have HZ := Lib.hid (show U = L ++ stpV (g.es.drop (i + 1)) id ts dir by rw [HQ.out, HA.out]; rfl)
          go_wp2
          go_roundw
          case rel => exact ⟨i + 1, L, by go_num, by omega, by omega, hown', HZ, HF⟩
          case measure => simp [RowKit.intOf]; omega
        · have HZ := Lib.hid (show U = (L ++ [(a, e.id)]) ++ stpV (g.es.drop (i + 1)) id ts dir by rw [HQ.out, HA.out, List.append_assoc]; rfl)
          have d0 := HB2.out.c 0
          simp only [List.getElem?_toArray, List.getElem?_cons_zero] at d0
          go_wp2_with (at_builtin; refine wpList_append_own_at _ rfl (.tmp 34) (.tmp 40) 39 rfl w0.heap.size 45 i0 (.agg #[.int .i64 0, .int .i64 0, .int .i64 0]) 3 24 Tryz.underlying39 hi hz0 hz1 hz2 rfl (by decide) _ L.length (aC id L) rfl (hown'.alloc _) ⟨w2.heap.size, 0, none⟩ 1 1 (aE id (a, e.id)) rfl rfl (World.news_of_block (heap_alloc_new w2 _)) (by intro u hu; simp [aE] at hu; rcases hu with rfl | rfl | rfl <;> rfl) (by unfold maxLen; omega) (by omega) (by have := HF.out.size; simp; omega) ?_; intro v' w5 hown5 hgrow _ _)
          have F5 := Lib.hid (show Fuw w0 w5 from Below.grown (HF.out.alloc _) hgrow (HF.out.alloc _).size (fun k hk => (hown'.lt k hk).1))
          have hown6 : w5.ownsRow w0.heap.size 45 3 v' (L ++ [(a, e.id)]).length (aC id (L ++ [(a, e.id)])) := by
            rw [aC_app, List.length_append]; exact hown5
          have hlen : (L ++ [(a, e.id)]).length ≤ i + 1 := by rw [List.length_append]; simp; omega
          clear hown5 hown' hgrow d0
          generalize L ++ [(a, e.id)] = L2 at *
          go_wp2
          go_roundw
          case rel => exact ⟨i + 1, L2, by go_num, by omega, hlen, hown6, HZ, F5⟩
          case measure => simp [RowKit.intOf]; omega
    · have HZ := Lib.hid (show U = L by rw [HQ.out, stp_end _ _ _ _ _ (by omega), List.append_nil])
      have HS := Lib.hid (srt_own hown (Nat.le_refl _) hf.out (by omega))
      clear hown
      go_wp2_with fail
      go_at_call 25; refine HS.out.mono ?_; rintro e1 w1 ⟨rfl, hown1, f1⟩
      obtain ⟨ao, cap, hv, -, hS⟩ := slJ_own hown1
      have HS1 := Lib.hid hS
      have HV := Lib.hid hv
      have F1 := Lib.hid f1
      clear hown1 hS hv f1
      go_wp2
      go_ret
      exact ⟨ao, cap, by rw [HZ.out, ← HV.out]; rfl, by rw [HZ.out]; exact HS1.out, F0.out.trans F1.out⟩
end Go.Proofs.YtkcmakfmeioakaaGreat

/-! The reference of package graph: the entry of an edge at a node; whether two slices of entries are equal; few. Nothing that was there turns. -/
namespace Go.Proofs.YtkcmakfmeioakaaGreat
open Go.RowKit

theorem load_adj (w : World) (b : Nat) (x y z : Int) (h0 : w.cell? ⟨b, 0, none⟩ = some (.int .i64 x)) (h1 : w.cell? ⟨b, 1, none⟩ = some (.int .i64 y)) (h2 : w.cell? ⟨b, 2, none⟩ = some (.int .i64 z)) :
    (loadVar 45 ⟨b, 0, none⟩).run Tryz.prog w = .ok (.agg #[.int .i64 x, .int .i64 y, .int .i64 z]) w := by
  go_simp
theorem j_ret {fn : Func} {p u : Tmp} (hres : fn.results = #[.cell p 45, .tmp u]) {tmps : Array Value} {B : Nat} {x y z : Int} {c : Bool} {w : World} {t : TypeId} {Q : Ending → World → Prop}
    (hp : tmps.getD p undef = .pointer (some ⟨B, 0, none⟩)) (hu : tmps.getD u undef = .bool c) (h : Bk w B #[.int .i64 x, .int .i64 y, .int .i64 z] t)
    (hQ : Q (.returned (.tuple #[.agg #[.int .i64 x, .int .i64 y, .int .i64 z], .bool c])) w) : bodyPost Tryz.prog fn Q Exit.ret { tmps := tmps, defers := [] } w := by
  refine bodyPost_ret (v := .tuple #[.agg #[.int .i64 x, .int .i64 y, .int .i64 z], .bool c]) ?_ rfl hQ
  rw [results_cell_tmp hres, hp, hu]
  have e : (asAddr (.pointer (some ⟨B, 0, none⟩))).run Tryz.prog w = .ok ⟨B, 0, none⟩ w := by go_simp
  rw [e]
  simp only [Result.andThen]
  rw [load_adj w B x y z (h.c 0) (h.c 1) (h.c 2)]
theorem bk2 (w : World) (o : Obj) (cs : Array Value) (t : TypeId) : Bk ((w.alloc o).alloc (.cells cs t)) (w.heap.size + 1) cs t := by
  have k := Bk.new (w.alloc o) cs t
  rwa [show (w.alloc o).heap.size = w.heap.size + 1 by simp] at k
theorem ret_j {u b b' v : Int} {c : Bool} (h : b = b') : Ending.returned (.tuple #[.agg #[.int .i64 u, .int .i64 b, .int .i64 v], .bool c]) = .returned (.tuple #[.agg #[.int .i64 u, .int .i64 b', .int .i64 v], .bool c]) := by rw [h]
/-! Two slices of entries. -/
def eqJ (x y : Int × Int × Int) : Bool := (x.1 == y.1) && ((x.2.1 == y.2.1) && (x.2.2 == y.2.2))
def samJ (a b : List (Int × Int × Int)) : Bool := al2 eqJ a b
theorem samJ_self (a : List (Int × Int × Int)) : samJ a a = true := al2_self _ a (fun x _ => by unfold eqJ; simp)
theorem neq_adj (x y : Int × Int × Int) (w : World) : (binOp .neq 45 (.agg #[.int .i64 x.1, .int .i64 x.2.1, .int .i64 x.2.2]) (.agg #[.int .i64 y.1, .int .i64 y.2.1, .int .i64 y.2.2])).run Tryz.prog w = .ok (.bool (!eqJ x y)) w := by
  have u3 := Tryz.underlying3
  have a3 := Tryz.isAgg3
  have z3 := Tryz.sizeOf3
  have hS : Tryz.prog.underlying 45 = some (.struct (Tryz.prog.fieldsOf 45)) := by kernel_rfl
  have hp : Tryz.prog.stoodInHeld 45 = false := by kernel_rfl
  rw [run_neq_struct, show (10000 : Nat) = 9999 + 1 from rfl, run_equalIn_agg w 9999 45 _ _ hS hp]
  unfold eqJ
  simp only [Program.fieldsOf, Tryz.underlying45]
  go_simp
  by_cases h1 : x.1 = y.1 <;> by_cases h2 : x.2.1 = y.2.1 <;> by_cases h3 : x.2.2 = y.2.2 <;> simp [h1, h2, h3]
theorem eql_adj (x y : Int × Int × Int) (w : World) : (binOp .eql 45 (.agg #[.int .i64 x.1, .int .i64 x.2.1, .int .i64 x.2.2]) (.agg #[.int .i64 y.1, .int .i64 y.2.1, .int .i64 y.2.2])).run Tryz.prog w = .ok (.bool (eqJ x y)) w := by
  have u3 := Tryz.underlying3
  have a3 := Tryz.isAgg3
  have z3 := Tryz.sizeOf3
  have hS : Tryz.prog.underlying 45 = some (.struct (Tryz.prog.fieldsOf 45)) := by kernel_rfl
  have hp : Tryz.prog.stoodInHeld 45 = false := by kernel_rfl
  rw [run_eql_struct, show (10000 : Nat) = 9999 + 1 from rfl, run_equalIn_agg w 9999 45 _ _ hS hp]
  unfold eqJ
  simp only [Program.fieldsOf, Tryz.underlying45]
  go_simp
  by_cases h1 : x.1 = y.1 <;> by_cases h2 : x.2.1 = y.2.1 <;> by_cases h3 : x.2.2 = y.2.2 <;> simp [h1, h2, h3]
theorem guard_adj : Tryz.prog.eqGuardType Tryz.prog.depth 45 = false := by kernel_rfl
set_option maxHeartbeats 1600000 in
set_option maxRecDepth 100000 in
theorem samj_any (a b : List (Int × Int × Int)) (ao bo : Option Addr) (ca cb : Nat) (w : World) (ha : SlJ w ao a ca) (hb : SlJ w bo b cb) :
    Calls Tryz.prog 13 #[.slice ao a.length ca, .slice bo b.length cb] w (FwB w (samJ a b)) := by
  have la := ha.len
  have lb := hb.len
  have HA := Lib.hid ha
  have HB := Lib.hid hb
  clear ha hb
  obtain ⟨R, hR⟩ : ∃ R, R = samJ a b := ⟨_, rfl⟩
  rw [← hR]
  have HR := Lib.hid hR
  clear hR
  by_cases hl : a.length = b.length
  · have HL := Lib.hid hl
    have hq : ((a.length : Int) != (b.length : Int)) = false := by rw [hl]; simp
    have hS := Lib.hid (show R = al2 eqJ (a.drop 0) (b.drop 0) from HR.out)
    clear hl
    go_enter Tryz.func13, Tryz.ntmps13
    go_wp2
    clear hq
    go_loopw [5] (fun iv wr => ∃ i : Nat, iv = .int .i64 i ∧ i ≤ a.length ∧ Hid (R = al2 eqJ (a.drop i) (b.drop i)) ∧ Hid (Fuw w wr)) (fun iv _ => a.length - (RowKit.intOf iv).toNat)
    case atStart => exact ⟨0, rfl, Nat.zero_le _, hS, Fuw.refl _⟩
    case round =>
      obtain ⟨i, rfl, hi, HQ, hf⟩ := hrel
      by_cases hlt : i < a.length
      · have hlb : i < b.length := by have := HL.out; omega
        obtain ⟨g, o, rfl, c0, c1, c2⟩ := (slJ_on hf.out HA.out).get hlt
        obtain ⟨g', o', rfl, d0, d1, d2⟩ := (slJ_on hf.out HB.out).get hlb
        have HD := Lib.hid (HQ.out.trans (al2_drop eqJ a b i hlt hlb))
        have hne := neq_adj a[i] b[i]
        have hgd := fun (op : BinOp) (p q : Operand) (xs ys : Array Value) (w' : World) => run_eqGuard_agg w' op 45 p q xs ys guard_adj
        generalize eqJ a[i] b[i] = r at *
        generalize a[i].1 = x0 at *
        generalize a[i].2.1 = x1 at *
        generalize a[i].2.2 = x2 at *
        generalize b[i].1 = y0 at *
        generalize b[i].2.1 = y1 at *
        generalize b[i].2.2 = y2 at *
        cases r
        · have HZ := Lib.hid (show R = false from HD.out)
          go_wp2
          go_quiet (fail)
          clear hne hgd
          go_wp2
          go_ret
          exact ⟨ret_bool HZ.out.symm, hf.out.trans (fuw_dr _ _)⟩
        · have HZ := Lib.hid (show R = al2 eqJ (a.drop (i + 1)) (b.drop (i + 1)) from HD.out)
          go_wp2
          go_quiet (fail)
          clear hne hgd
          go_wp2
          go_roundw
          case rel => exact ⟨i + 1, by go_num, by omega, HZ, hf.out.trans (fuw_dr _ _)⟩
          case measure => simp [RowKit.intOf]; omega
      · have HZ := Lib.hid (show R = true by rw [HQ.out, al2_end _ _ _ _ (by omega) (by have := HL.out; omega)])
        go_wp2
        go_ret
        exact ⟨ret_bool HZ.out.symm, hf.out⟩
  · have HZ := Lib.hid (show R = false by rw [HR.out]; exact al2_len _ _ _ hl)
    have hq : ((a.length : Int) != (b.length : Int)) = true := by rw [bne_iff_ne]; omega
    clear hl
    go_enter Tryz.func13, Tryz.ntmps13
    go_wp2
    go_ret
    exact ⟨ret_bool HZ.out.symm, Fuw.refl _⟩
end Go.Proofs.YtkcmakfmeioakaaGreat
