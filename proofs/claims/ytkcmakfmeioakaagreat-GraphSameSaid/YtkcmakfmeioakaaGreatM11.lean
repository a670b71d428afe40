/-
  GrK; GrG: texts of one kind in one file; each part says what it holds.
-/
import Derived.Test.YtkcmakfmeioakaaGreatM10
import Derived.Test.YtkcmakfmeioakaaGreatM05
import Derived.Test.YtkcmakfmeioakaaGreatShelf

/-! Slices of entries that a call has made, told by the list of what they hold; slices.SortFunc of one. Nothing that was there turns. -/
namespace Go.Proofs.YtkcmakfmeioakaaGreat
open Go.RowKit Go.Sort Go.Shelf

/-- The three cells of an entry at the node id; of entries. -/
def aE (id : Int) (x : Int × Int) : List Value := [.int .i64 id, .int .i64 x.1, .int .i64 x.2]
def aC (id : Int) (L : List (Int × Int)) : List Value := L.flatMap (aE id)
theorem aC_len (id : Int) : ∀ L : List (Int × Int), (aC id L).length = L.length * 3
  | [] => rfl
  | x :: r => by
    show (aE id x ++ aC id r).length = _
    rw [List.length_append, aC_len id r, List.length_cons]
    show 3 + _ = _
    omega
theorem aC_app (id : Int) (a b : List (Int × Int)) : aC id (a ++ b) = aC id a ++ aC id b := List.flatMap_append
theorem aC_get (id : Int) : ∀ (L : List (Int × Int)) (i c : Nat), c < 3 → (h : i < L.length) → (aC id L)[i * 3 + c]? = (aE id L[i])[c]?
  | x :: r, 0, c, hc, _ => by
    show (aE id x ++ aC id r)[0 * 3 + c]? = _
    rw [Nat.zero_mul, Nat.zero_add, List.getElem?_append_left (show c < (aE id x).length from hc)]; rfl
  | x :: r, i + 1, c, hc, h => by
    show (aE id x ++ aC id r)[(i + 1) * 3 + c]? = _
    have e3 : (aE id x).length = 3 := rfl
    rw [List.getElem?_append_right (by rw [e3]; omega), e3, show (i + 1) * 3 + c - 3 = i * 3 + c by omega, aC_get id r i c hc (by simpa using h)]
    rfl
theorem flat_eq (id : Int) (L : List (Int × Int)) : (flatK (aE id) 3 L.toArray).toList = aC id L := by
  apply List.ext_getElem?
  intro t
  by_cases h : t < L.length * 3
  · have e : t = t / 3 * 3 + t % 3 := by omega
    have h1 : t / 3 < L.length := by omega
    have k := aC_get id L (t / 3) (t % 3) (by omega) h1
    rw [← e] at k
    rw [k]
    have hz : t < (flatK (aE id) 3 L.toArray).size := by rw [size_flatK]; simpa using h
    have g := get_flatK (aE id) 3 L.toArray t (by simpa using h)
    rw [getElem!_pos _ t hz, getElem!_pos L.toArray (t / 3) (by simpa using h1)] at g
    have h3 : t % 3 < (aE id L[t / 3]).length := by show t % 3 < 3; omega
    rw [Array.getElem?_toList, Array.getElem?_eq_getElem hz, g, List.getElem?_eq_getElem h3]
    simp only [List.getElem_toArray]
    rw [getElem!_pos (aE id L[t / 3]) (t % 3) h3]
  · rw [List.getElem?_eq_none (by rw [Array.length_toList, size_flatK]; simpa using h), List.getElem?_eq_none (by rw [aC_len]; omega)]
theorem heap_srt {w : World} {g n : Nat} {os : Array Obj} {cur : Array Value} {e : TypeId} {fr : Nat × Nat} (F : Array Value) (hb : w.heap[g]? = some (.cells cur e fr)) :
    (grow (putRow id (Sort.ahead w n) g 0 F) os).heap[g]? = some (.cells (putCells id 0 F cur) e fr) := by
  have hg : g < w.heap.size := (Array.getElem?_eq_some_iff.1 hb).1
  rw [heap_grow_old _ _ (by simpa using hg)]
  simp [putRow, mapBlock, Sort.ahead, Array.getElem?_modify, hb, onCells]
theorem grown_srt {w : World} {g n : Nat} {os : Array Obj} (F : Array Value) : w.grownBy (grow (putRow id (Sort.ahead w n) g 0 F) os) (some g) := by
  refine ⟨rfl, rfl, rfl, by simp, fun k hk hne => ?_⟩
  rw [heap_grow_old _ _ (by simpa using hk)]
  have : g ≠ k := fun e => hne (by rw [e])
  simp [putRow, mapBlock, Sort.ahead, Array.getElem?_modify, this]
theorem take_put (cur F : Array Value) (h : F.size ≤ cur.size) : (putCells id 0 F cur).toList.take F.size = F.toList := by
  apply List.ext_getElem?
  intro j
  by_cases hj : j < F.size
  · rw [List.getElem?_take_of_lt hj, Array.getElem?_toList, Array.getElem?_toList]
    simp [putCells, hj, show j < cur.size by omega]
  · rw [List.getElem?_take_eq_none (by omega), List.getElem?_eq_none (by simpa using hj)]
theorem fur_grow {W W' : World} (h : Fur W W') : ∃ q os', W' = grow (W.drewN q) os' := by
  refine ⟨W'.drawn - W.drawn, W'.heap.extract W.heap.size W'.heap.size, ?_⟩
  have hd := h.dr
  have hs := h.size
  obtain ⟨h1, h2, h3, h4, h5⟩ := h.b
  cases W with | mk hp tp dr o out =>
  cases W' with | mk hp' tp' dr' o' out' =>
  simp only at hd hs h1 h2 h3 h4 h5 ⊢
  subst h1 h2 h3
  unfold grow World.drewN
  simp only [World.mk.injEq, true_and, and_true]
  refine ⟨?_, by omega⟩
  apply Array.ext_getElem?
  intro k
  by_cases hk : k < hp.size
  · rw [h5 k hk, Array.getElem?_append_left hk]
  · rw [Array.getElem?_append_right (by omega), Array.getElem?_extract]
    by_cases hk2 : k < hp'.size
    · rw [if_pos (by omega)]
      congr 1
      omega
    · rw [if_neg (by omega), Array.getElem?_eq_none (by omega)]
theorem adj_lt (a b : Int × Int) : ltOf adjc a b = adjL a b := by unfold ltOf; exact adjc_lt a b
theorem adj_swo : SWO (ltOf adjc) where
  irrefl x := by
    rw [adj_lt]
    unfold adjL
    simp
  trans x y z h1 h2 := by
    rw [adj_lt] at *
    unfold adjL at *
    simp only [Bool.or_eq_true, Bool.and_eq_true, decide_eq_true_eq] at *
    omega
  ntrans x y z h1 h2 := by
    rw [adj_lt] at *
    unfold adjL at *
    simp only [Bool.or_eq_false_iff, Bool.and_eq_false_iff, decide_eq_false_iff_not] at *
    omega
theorem adj_lays (id : Int) (blk off size : Nat) (w : World) : CmpLays Tryz.prog 26 #[] (aE id) 3 adjc blk off size w := fun _ _ _ _ x y =>
  (ord_any id x.1 x.2 id y.1 y.2 _).mono fun _ _ ⟨he, hf⟩ => ⟨he, fur_grow hf⟩
theorem isAggJ : ∀ w, (isAgg 45).run Tryz.prog w = .ok true w := Tryz.isAgg45
theorem sizeJ : ∀ w, (Go.sizeOf 45).run Tryz.prog w = .ok 3 w := Tryz.sizeOf45
/-- SortFunc of a slice that the call has made: the entries in order. -/
theorem srt_own {w0 w : World} {base : Nat} {v : Value} {id : Int} {L : List (Int × Int)} (h : w.ownsRow base 45 3 v L.length (aC id L)) (hb0 : w0.heap.size ≤ base) (F : Fuw w0 w) (hl : L.length ≤ 1000000) :
    Calls Tryz.prog 25 #[v, .func (.func 26) #[] #[]] w fun e w' => e = .returned (.tuple #[]) ∧ w'.ownsRow base 45 3 v (srtV L).length (aC id (srtV L)) ∧ Fuw w0 w' := by
  have hlen := (srtV_perm L).length_eq
  rcases h.2 with ⟨rfl, h0⟩ | ⟨g, cap, cur, rfl, hb, hh, h1, h2, h3, h4⟩
  · have e := List.length_eq_zero_iff.1 h0
    subst e
    rw [show srtV [] = [] from List.eq_nil_of_length_eq_zero hlen]
    refine (AnyF.slices_SortFunc_none { Tryz.lays25 with } none 0 _ w).mono ?_
    rintro e w' ⟨rfl, rfl⟩
    exact ⟨rfl, World.ownsRow_nil _ _ _ _, F⟩
  · have hF : (flatK (aE id) 3 L.toArray).size = L.length * 3 := by rw [size_flatK]; simp
    have hg : g < w.heap.size := (Array.getElem?_eq_some_iff.1 hh).1
    have hH : HoldsK (aE id) 3 w g 0 L.toArray := by
      intro j hj
      rw [hF] at hj
      refine ⟨?_, by simp [World.frozen?, hh]⟩
      rw [Nat.zero_add, cell_of_row w g j cur _ (0, 0) hh]
      have k : (cur.toList.take (L.length * 3))[j]? = (aC id L)[j]? := by rw [h4]
      rw [List.getElem?_take_of_lt hj, Array.getElem?_toList] at k
      rw [k, ← flat_eq, Array.getElem?_toList, Array.getElem?_eq_getElem (by rw [hF]; exact hj), getElem!_pos _ j (by rw [hF]; exact hj)]
      rfl
    have eg : ∀ args w, (callFunc 26 args).run Tryz.prog w = .ok (.enter 26 args) w := enters_of Tryz.func26 (by kernel_rfl) rfl
    have hcon := AnyQ.slices_SortFunc_total Tryz.lays25 3 isAggJ sizeJ (aE id) (fun _ => rfl) (fun x v hv => by simp [aE] at hv; rcases hv with rfl | rfl | rfl <;> rfl) adjc adj_swo 26 #[] g 0 cap L.toArray w eg (adj_lays id g 0 _ w) hH hg (by simp; omega)
      (fun x y hx hy => by rw [adj_lt] at hx hy; exact adjL_eq hx hy)
    change Calls Tryz.prog 25 _ _ _ at hcon
    rw [show L.toArray.size = L.length from List.size_toArray ..] at hcon
    refine hcon.mono ?_
    rintro e w' ⟨rfl, n, os, rfl⟩
    have hS : (L.mergeSort fun x y => !(ltOf adjc) y x) = srtV L := by
      unfold srtV
      congr 1
      funext a b
      rw [adj_lt]
    have hS' : (L.toArray.toList.mergeSort fun x y => !(ltOf adjc) y x).toArray = (srtV L).toArray := by rw [← hS]
    rw [hS']
    have hF' : (flatK (aE id) 3 (srtV L).toArray).size = L.length * 3 := by rw [size_flatK]; simp [hlen]
    refine ⟨rfl, ⟨by rw [aC_len], .inr ⟨g, cap, _, by rw [hlen], hb, heap_srt _ hh, by omega, h2, by simp [putCells, h3], ?_⟩⟩, Below.grown F (grown_srt _) F.size (fun k hk => by cases hk; omega)⟩
    rw [hlen, ← hF', take_put cur _ (by rw [hF']; omega), flat_eq]
end Go.Proofs.YtkcmakfmeioakaaGreat

/-! Package graph: what is wrong with the nodes of a graph. Nothing that was there turns. -/
namespace Go.Proofs.YtkcmakfmeioakaaGreat
open Go.RowKit

theorem nd_26 {nn : Int} {prev : Option Int} {n : Nd} (h : badP prev n.id = true) : ndV nn prev n = 26 := by unfold ndV; rw [if_pos h]
theorem nd_1 {nn : Int} {prev : Option Int} {n : Nd} (h : badP prev n.id = false) (h1 : n.id < 1 ∨ nn ≤ n.id) : ndV nn prev n = 1 := by
  unfold ndV; rw [h, if_neg (by decide), if_pos h1]
theorem nd_p {nn : Int} {prev : Option Int} {n : Nd} (h : badP prev n.id = false) (h1 : ¬ n.id < 1) (h2 : ¬ nn ≤ n.id) : ndV nn prev n = parV n.ls n.ps := by
  unfold ndV; rw [h, if_neg (by decide), if_neg (by omega)]
theorem prevN_p (ns : List Nd) (i p : Nat) (h : p < ns.length) (e : i = p + 1) : prevN ns i = some ns[p].id := by subst e; exact prevN_s ns p h

/-- A graph in a block of its own. -/
def GB (W : World) (B : Nat) (g : Gr) (an ae : Option Addr) (cn ce : Nat) : Prop := Bk W B #[.slice an g.ns.length cn, .slice ae g.es.length ce, .int .i64 g.nn, .int .i64 g.ne] 25
section
variable {W W' : World} {B : Nat} {g : Gr} {an ae : Option Addr} {cn ce : Nat}
theorem GB.c0 (h : GB W B g an ae cn ce) : W.cell? ⟨B, 0, none⟩ = some (.slice an g.ns.length cn) := h.c 0
theorem GB.c1 (h : GB W B g an ae cn ce) : W.cell? ⟨B, 1, none⟩ = some (.slice ae g.es.length ce) := h.c 1
theorem GB.c2 (h : GB W B g an ae cn ce) : W.cell? ⟨B, 2, none⟩ = some (.int .i64 g.nn) := h.c 2
theorem GB.c3 (h : GB W B g an ae cn ce) : W.cell? ⟨B, 3, none⟩ = some (.int .i64 g.ne) := h.c 3
theorem GB.on (h : GB W B g an ae cn ce) (hf : Fuw W W') : GB W' B g an ae cn ce := Bk.on h hf
theorem GB.new (w : World) (g : Gr) (an ae : Option Addr) (cn ce : Nat) : GB (w.alloc (.cells #[.slice an g.ns.length cn, .slice ae g.es.length ce, .int .i64 g.nn, .int .i64 g.ne] 25)) w.heap.size g an ae cn ce := Bk.new _ _ _
end

set_option maxHeartbeats 3200000 in
set_option maxRecDepth 100000 in
theorem chn_any (g : Gr) (an ae : Option Addr) (cn ce : Nat) (w : World) (hg : GIn w g an ae cn ce) (hn : g.ns.length ≤ 2000) :
    Calls Tryz.prog 28 #[grv g an ae cn ce] w (FwI w (nsV g.nn none g.ns)) := by
  have HG0 := hg
  have hb0 := GB.new w g an ae cn ce
  have f0 := fuwA w (.cells #[.slice an g.ns.length cn, .slice ae g.es.length ce, .int .i64 g.nn, .int .i64 g.ne] 25)
  obtain ⟨R, hR⟩ : ∃ R, R = nsV g.nn none g.ns := ⟨_, rfl⟩
  rw [← hR]
  unfold grv
  obtain ⟨w0, hw0⟩ : ∃ w0, w0 = w.alloc (.cells #[.slice an g.ns.length cn, .slice ae g.es.length ce, .int .i64 g.nn, .int .i64 g.ne] 25) := ⟨_, rfl⟩
  rw [← hw0] at hb0 f0
  have HW0 := Lib.hid hw0
  have HB := Lib.hid hb0
  have F0 := Lib.hid f0
  have HN := Lib.hid (slN_on f0 HG0.n)
  have HS0 := Lib.hid (show R = nsV g.nn (prevN g.ns 0) (g.ns.drop 0) from hR)
  clear hw0 hb0 f0 HG0 hg hR
  go_enter Tryz.func28, Tryz.ntmps28
  go_wp2
  go_loopw [9] (fun iv wr => ∃ i : Nat, iv = .int .i64 i ∧ i ≤ g.ns.length ∧ Hid (R = nsV g.nn (prevN g.ns i) (g.ns.drop i)) ∧ Hid (Fuw w0 wr)) (fun iv _ => g.ns.length - (RowKit.intOf iv).toNat)
  case atStart => exact ⟨0, rfl, Nat.zero_le _, HS0, by rw [HW0.out]; exact Fuw.refl _⟩
  case round =>
    obtain ⟨i, rfl, hi, HQ, hf⟩ := hrel
    by_cases hlt : i < g.ns.length
    · obtain ⟨b, o, hao, h64, c0, ⟨al, cl, c1, hsl⟩, ap, cp, c2, hsp⟩ := (slN_on hf.out HN.out).get hlt
      have HA := Lib.hid (HQ.out.trans (nsV_drop g.nn g.ns i hlt))
      have HB1 := Lib.hid (HB.out.on hf.out)
      have HX := Lib.hid (show i = 0 ∧ badP (prevN g.ns i) g.ns[i].id = false ∨ ∃ (p : Nat) (hp : p < g.ns.length), i = p + 1 ∧ badP (prevN g.ns i) g.ns[i].id = decide (g.ns[i].id ≤ g.ns[p].id) ∧ wr.cell? ⟨b, o + p * 3, none⟩ = some (.int .i64 g.ns[p].id) from by
        rcases Nat.eq_zero_or_pos i with e | e
        · subst e; exact .inl ⟨rfl, rfl⟩
        · refine .inr ⟨i - 1, by omega, by omega, ?_, ?_⟩
          · rw [prevN_p g.ns i (i - 1) (by omega) (by omega)]; rfl
          · obtain ⟨b', o', hao', -, k0, -⟩ := (slN_on hf.out HN.out).get (show i - 1 < g.ns.length by omega)
            rw [hao] at hao'
            cases hao'
            exact k0)
      have HC := Lib.hid (fun w' (hf' : Fuw wr w') => cont_any g.ns[i].ls g.ns[i].ps al ap cl cp w' (slS_on hf' hsl) (slP_on hf' hsp))
      have HP := Lib.hid (fun (h : badP (prevN g.ns i) g.ns[i].id = false) (h1 : ¬ g.ns[i].id < 1) (h2 : ¬ g.nn ≤ g.ns[i].id) => nd_p (nn := g.nn) h h1 h2)
      have H1 := Lib.hid (fun (h : badP (prevN g.ns i) g.ns[i].id = false) (h1 : g.ns[i].id < 1 ∨ g.nn ≤ g.ns[i].id) => nd_1 (nn := g.nn) h h1)
      have H26 := Lib.hid (fun (h : badP (prevN g.ns i) g.ns[i].id = true) => nd_26 (nn := g.nn) h)
      subst hao
      generalize g.ns[i] = n at *
      generalize badP (prevN g.ns i) n.id = bad at *
      generalize ndV g.nn (prevN g.ns i) n = nd at *
      have q0 := HB1.out.c0
      go_upto_region 4 with fail
      obtain ⟨W, hW⟩ : ∃ W, W = wr.alloc (.cells #[.int .i64 n.id, .slice al n.ls.length cl, .slice ap n.ps.length cp] 33) := ⟨_, rfl⟩
      have hfW : Fuw wr W := by rw [hW]; exact fuwA _ _
      have hBn : Bk W wr.heap.size #[.int .i64 n.id, .slice al n.ls.length cl, .slice ap n.ps.length cp] 33 := by rw [hW]; exact Bk.new _ _ _
      rw [← hW]
      clear hW q0 c0 c1 c2
      have q0 := (HB1.out.on hfW).c0
      have q2 := (HB1.out.on hfW).c2
      have d0 : W.cell? ⟨wr.heap.size, 0, none⟩ = some (.int .i64 n.id) := hBn.c 0
      have d1 : W.cell? ⟨wr.heap.size, 1, none⟩ = some (.slice al n.ls.length cl) := hBn.c 1
      have d2 : W.cell? ⟨wr.heap.size, 2, none⟩ = some (.slice ap n.ps.length cp) := hBn.c 2
      rcases HX.out with ⟨hi0, hbad⟩ | ⟨p, hp, hi0, hbad, k0⟩
      · have hd : decide (0 < i) = false := decide_eq_false (by omega)
        have HBD := Lib.hid hbad
        clear hi0 hbad
        go_wp2
        go_quiet (fail)
        clear hd
        have hb' : bad = false := HBD.out
        by_cases h1 : n.id < 1
        · have HZ := Lib.hid (show R = 1 by rw [HA.out, H1.out hb' (.inl h1)]; rfl)
          clear hb'
          go_wp2
          go_ret
          exact ⟨ret_int HZ.out.symm, F0.out.trans (hf.out.trans (hfW.trans (fuw_dr _ _)))⟩
        · by_cases h2 : g.nn ≤ n.id
          · have HZ := Lib.hid (show R = 1 by rw [HA.out, H1.out hb' (.inr h2)]; rfl)
            clear hb'
            go_wp2
            go_ret
            exact ⟨ret_int HZ.out.symm, F0.out.trans (hf.out.trans (hfW.trans (fuw_dr _ _)))⟩
          · have HZ := Lib.hid (HP.out hb' (by omega) (by omega))
            clear hb'
            generalize parV n.ls n.ps = c at *
            go_wp2_with fail
            go_at_call 42; refine (HC.out _ (hfW.trans (fuw_dr _ _))).mono ?_; rintro e1 w1 ⟨rfl, f1⟩
            have HF := Lib.hid (hf.out.trans ((hfW.trans (fuw_dr _ _)).trans f1))
            by_cases hc : c = 0
            · subst hc
              have HY := Lib.hid (show R = nsV g.nn (prevN g.ns (i + 1)) (g.ns.drop (i + 1)) by rw [HA.out, HZ.out, if_pos rfl])
              go_wp2
              go_roundw
              case rel => exact ⟨i + 1, by go_num, by omega, HY, HF⟩
              case measure => simp [RowKit.intOf]; omega
            · have HY := Lib.hid (show R = c by rw [HA.out, HZ.out, if_neg hc])
              have hc' : (c != 0) = true := by rw [bne_iff_ne]; exact hc
              clear hc
              go_wp2
              go_ret
              exact ⟨ret_int HY.out.symm, F0.out.trans HF.out⟩
      · have hd : decide (0 < i) = true := decide_eq_true (by omega)
        have k0' := cellOnw hfW k0
        have k1 : IntKind.i64.wrap ((i : Int) - 1) = (p : Int) := by rw [show (i : Int) - 1 = p by omega]; exact IntWalk.i64_in _ (by omega)
        have k2 : (0 : Int) ≤ (p : Int) := by omega
        have k3 : (p : Int) < (g.ns.length : Int) := by omega
        have HBD := Lib.hid hbad
        clear hi0 k0 hbad
        generalize g.ns[p].id = pid at *
        by_cases hle : n.id ≤ pid
        · have HZ := Lib.hid (show R = 26 by rw [HA.out, H26.out (by rw [HBD.out]; exact decide_eq_true hle)]; rfl)
          have hle' : decide (n.id ≤ pid) = true := decide_eq_true hle
          clear hle
          go_wp2
          go_quiet (fail)
          clear hd k1 hle'
          go_wp2
          go_ret
          exact ⟨ret_int HZ.out.symm, F0.out.trans (hf.out.trans (hfW.trans (fuw_dr _ _)))⟩
        · have HBE := Lib.hid (show bad = false by rw [HBD.out]; exact decide_eq_false hle)
          have hle' : decide (n.id ≤ pid) = false := decide_eq_false hle
          clear hle
          go_wp2
          go_quiet (fail)
          clear hd k1 hle'
          have hb' : bad = false := HBE.out
          by_cases h1 : n.id < 1
          · have HZ := Lib.hid (show R = 1 by rw [HA.out, H1.out hb' (.inl h1)]; rfl)
            clear hb'
            go_wp2
            go_ret
            exact ⟨ret_int HZ.out.symm, F0.out.trans (hf.out.trans (hfW.trans (fuw_dr _ _)))⟩
          · by_cases h2 : g.nn ≤ n.id
            · have HZ := Lib.hid (show R = 1 by rw [HA.out, H1.out hb' (.inr h2)]; rfl)
              clear hb'
              go_wp2
              go_ret
              exact ⟨ret_int HZ.out.symm, F0.out.trans (hf.out.trans (hfW.trans (fuw_dr _ _)))⟩
            · have HZ := Lib.hid (HP.out hb' (by omega) (by omega))
              clear hb'
              generalize parV n.ls n.ps = c at *
              go_wp2_with fail
              go_at_call 42; refine (HC.out _ (hfW.trans (fuw_dr _ _))).mono ?_; rintro e1 w1 ⟨rfl, f1⟩
              have HF := Lib.hid (hf.out.trans ((hfW.trans (fuw_dr _ _)).trans f1))
              by_cases hc : c = 0
              · subst hc
                have HY := Lib.hid (show R = nsV g.nn (prevN g.ns (i + 1)) (g.ns.drop (i + 1)) by rw [HA.out, HZ.out, if_pos rfl])
                go_wp2
                go_roundw
                case rel => exact ⟨i + 1, by go_num, by omega, HY, HF⟩
                case measure => simp [RowKit.intOf]; omega
              · have HY := Lib.hid (show R = c by rw [HA.out, HZ.out, if_neg hc])
                have hc' : (c != 0) = true := by rw [bne_iff_ne]; exact hc
                clear hc
                go_wp2
                go_ret
                exact ⟨ret_int HY.out.symm, F0.out.trans HF.out⟩
    · have HZ := Lib.hid (show R = 0 by rw [HQ.out, List.drop_of_length_le (by omega)]; rfl)
      go_wp2
      go_ret
      exact ⟨ret_int HZ.out.symm, F0.out.trans hf.out⟩
end Go.Proofs.YtkcmakfmeioakaaGreat
