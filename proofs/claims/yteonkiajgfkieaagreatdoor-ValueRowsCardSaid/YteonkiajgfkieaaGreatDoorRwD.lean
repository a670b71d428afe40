/-
  Rows sorted: slices.Clone and slices.SortFunc at rows, the landed SortRows and SameBag. Nothing that was there turns.
-/
import Derived.Test.YteonkiajgfkieaaGreatDoorRwC
import Derived.Test.YteonkiajgfkieaaGreatDoorCq
import Derived.Test.YteonkiajgfkieaaGreatDoorShelfS
namespace Go.Proofs.YteonkiajgfkieaaGreatDoor
open Go.RowKit Go.Sort Go.Shelf

/-- A row with its place and its capacity; its header. -/
abbrev RPm := List Vl × Option Addr × Nat
def hdr (p : RPm) : Value := .slice p.2.1 p.1.length p.2.2
def NstR (ps : List RPm) (w : World) : Prop := ∀ p ∈ ps, SlV w p.2.1 p.1 p.2.2
theorem NstR.nil (w : World) : NstR [] w := fun _ h => by cases h
theorem NstR.onw {ps : List RPm} {w w' : World} (h : NstR ps w) (hf : Fuw w w') : NstR ps w' := fun p hp => (h p hp).onw hf
theorem hdr_at {ps : List RPm} {j : Nat} (h : j < ps.length) : (ps.map hdr)[j]? = some (hdr ps[j]) := by rw [List.getElem?_map, List.getElem?_eq_getElem h]; rfl
theorem pms_of {w : World} {b : Nat} : ∀ (L : List (List Vl)) (o : Nat), (∀ (j : Nat) (h : j < L.length), RAt w b (o + j) L[j]) → ∃ ps : List RPm, ps.map Prod.fst = L ∧ NstR ps w ∧ ∀ j u, (ps.map hdr)[j]? = some u → w.cell? ⟨b, o + j, none⟩ = some u
  | [], _, _ => ⟨[], rfl, NstR.nil w, fun j u h => by simp at h⟩
  | l :: L, o, h => by
    obtain ⟨a, c, h1, h2⟩ := h 0 (by simp)
    obtain ⟨ps, e, hn, hc⟩ := pms_of L (o + 1) (fun j hj => by
      have k := h (j + 1) (by simpa using hj)
      rw [show o + (j + 1) = o + 1 + j by omega] at k
      exact k)
    refine ⟨(l, a, c) :: ps, by rw [List.map_cons, e], ?_, ?_⟩
    · intro p hp
      rcases List.mem_cons.1 hp with rfl | hp
      · exact h2
      · exact hn p hp
    · intro j u hu
      cases j with
      | zero =>
        have e1 : u = .slice a l.length c := by simpa [hdr] using hu.symm
        rw [e1]
        exact h1
      | succ j =>
        have k := hc j u (by simpa using hu)
        rwa [show o + (j + 1) = o + 1 + j by omega]
theorem slR_own {w : World} {base : Nat} {v : Value} {n : Nat} {ps : List RPm} (h : w.ownsRow base 23 1 v n (ps.map hdr)) (hn : NstR ps w) : ∃ ao cap, v = .slice ao ps.length cap ∧ n = ps.length ∧ SlR w ao (ps.map Prod.fst) cap := by
  have hl := h.1
  rw [List.length_map] at hl
  obtain rfl : n = ps.length := by omega
  rcases h.2 with ⟨rfl, h0⟩ | ⟨g, cap, cur, rfl, hb, hh, h1, h2, h3, h4⟩
  · have e : ps = [] := List.eq_nil_of_length_eq_zero h0
    subst e
    exact ⟨none, 0, rfl, rfl, SlR.empty w⟩
  · refine ⟨_, cap, rfl, rfl, by rw [List.length_map]; exact h1, h2, (fun k => by cases k), fun _ => ⟨g, 0, rfl, (Array.getElem?_eq_some_iff.1 hh).1, fun j hj => ?_⟩⟩
    rw [List.length_map] at hj
    simp only [List.getElem_map]
    have k := h.cellAt j (by omega)
    rw [hdr_at hj] at k
    exact ⟨ps[j].2.1, ps[j].2.2, by rw [Nat.zero_add]; exact k, hn _ (List.getElem_mem hj)⟩

/-! slices.SortFunc. -/
/-- A row that lies in the world w0. -/
structure RS (w0 : World) where
  p : RPm
  ok : SlV w0 p.2.1 p.1 p.2.2
instance rsInh (w0 : World) : Inhabited (RS w0) := ⟨⟨([], none, 0), ⟨Nat.le_refl _, Nat.zero_le _, fun _ => rfl, fun k => absurd k (by decide)⟩⟩⟩
def encR (w0 : World) (x : RS w0) : Value := hdr x.p
def cfR (w0 : World) (x y : RS w0) : Int := ordL x.p.1 y.p.1
theorem rs_swo (w0 : World) : SWO (ltOf (cfR w0)) where
  irrefl x := by
    unfold ltOf cfR
    rw [ordL_self]; rfl
  trans x y z h1 h2 := by
    unfold ltOf cfR at *
    rw [decide_eq_true_eq] at *
    have a1 := ordL_swap x.p.1 y.p.1
    have a2 := ordL_swap y.p.1 z.p.1
    have a3 := ordL_swap x.p.1 z.p.1
    rcases Int.lt_or_le (ordL x.p.1 z.p.1) 0 with k | k
    · exact k
    · have := ordL_trans (a := z.p.1) (b := x.p.1) (c := y.p.1) (by omega) (by omega)
      omega
  ntrans x y z h1 h2 := by
    unfold ltOf cfR at *
    rw [decide_eq_false_iff_not] at *
    have a1 := ordL_swap x.p.1 y.p.1
    have a2 := ordL_swap y.p.1 z.p.1
    have a3 := ordL_swap x.p.1 z.p.1
    have := ordL_trans (a := z.p.1) (b := y.p.1) (c := x.p.1) (by omega) (by omega)
    omega
theorem xs_of {w0 : World} : ∀ ps : List RPm, NstR ps w0 → ∃ xs : List (RS w0), xs.map RS.p = ps
  | [], _ => ⟨[], rfl⟩
  | p :: ps, h => by
    obtain ⟨xs, e⟩ := xs_of ps (fun q hq => h q (List.mem_cons_of_mem _ hq))
    exact ⟨⟨p, h p (List.mem_cons_self ..)⟩ :: xs, by rw [List.map_cons, e]⟩
theorem grow_fur {W W' : World} (h : Fur W W') : ∃ q os', W' = grow (W.drewN q) os' := by
  refine ⟨W'.drawn - W.drawn, W'.heap.extract W.heap.size W'.heap.size, ?_⟩
  have hd := h.dr
  have hs := h.size
  obtain ⟨h1, h2, h3, h4, h5⟩ := h.b
  cases W with | mk hp tp dr o out =>
  cases W' with | mk hp' tp' dr' o' out' =>
  simp only at hd hs h1 h2 h3 h4 h5 ⊢
  subst h1 h2 h3
  unfold grow World.drewN
  simp only [World.mk.injEq, true_and, and_true]
  refine ⟨?_, by omega⟩
  apply Array.ext_getElem?
  intro k
  by_cases hk : k < hp.size
  · rw [h5 k hk, Array.getElem?_append_left hk]
  · rw [Array.getElem?_append_right (by omega), Array.getElem?_extract]
    by_cases hk2 : k < hp'.size
    · rw [if_pos (by omega)]
      congr 1
      omega
    · rw [if_neg (by omega), Array.getElem?_eq_none (by omega)]
section
variable {α : Type} [Inhabited α]
theorem heap_srt1 {enc : α → Value} {w : World} {g n : Nat} {os : Array Obj} {cur : Array Value} {e : TypeId} {fr : Nat × Nat} (D : Array α) (hb : w.heap[g]? = some (.cells cur e fr)) :
    (sortWorld enc w g 0 n D os).heap[g]? = some (.cells (putCells enc 0 D cur) e fr) := by
  have hg : g < w.heap.size := (Array.getElem?_eq_some_iff.1 hb).1
  unfold sortWorld
  rw [heap_grow_old _ _ (by simpa [putRow, mapBlock, Sort.ahead] using hg)]
  simp [putRow, mapBlock, Sort.ahead, Array.getElem?_modify, hb, onCells]
theorem grown_srt1 {enc : α → Value} {w : World} {g n : Nat} {os : Array Obj} (D : Array α) : w.grownBy (sortWorld enc w g 0 n D os) (some g) := by
  unfold sortWorld
  refine ⟨rfl, rfl, rfl, by simp [putRow, mapBlock, Sort.ahead], fun k hk hne => ?_⟩
  rw [heap_grow_old _ _ (by simpa [putRow, mapBlock, Sort.ahead] using hk)]
  have : g ≠ k := fun e => hne (by rw [e])
  simp [putRow, mapBlock, Sort.ahead, Array.getElem?_modify, this]
theorem take_put1 (enc : α → Value) (cur : Array Value) (D : Array α) (h : D.size ≤ cur.size) : (putCells enc 0 D cur).toList.take D.size = D.toList.map enc := by
  apply List.ext_getElem?
  intro j
  by_cases hj : j < D.size
  · rw [List.getElem?_take_of_lt hj, Array.getElem?_toList, List.getElem?_map, Array.getElem?_toList, Array.getElem?_eq_getElem hj]
    simp [putCells, hj, show j < cur.size by omega]
  · rw [List.getElem?_take_eq_none (by omega), List.getElem?_eq_none (by simpa using hj)]
end
theorem rs_lays (w0 w : World) (blk : Nat) (F : Fuw w0 w) (hb : w0.heap.size ≤ blk) (size : Nat) : CmpLays1 Tryz.prog 7 #[] (encR w0) (cfR w0) blk 0 size w := fun m os dk _ x y => by
  have FF : Fuw w0 (sortWorld (encR w0) w blk 0 m dk os) := Below.grown F (grown_srt1 _) F.size (fun k hk => by cases hk; exact hb)
  exact (lrows_any x.p.1 y.p.1 x.p.2.1 y.p.2.1 x.p.2.2 y.p.2.2 _ (x.ok.onw FF) (y.ok.onw FF)).mono fun _ _ ⟨he, hf⟩ => ⟨he, grow_fur hf⟩
/-- SortFunc of a slice of rows that the call has made. -/
theorem srt_rows {w0 w : World} {base : Nat} {v : Value} {ps : List RPm} (h : w.ownsRow base 23 1 v ps.length (ps.map hdr)) (hb0 : w0.heap.size ≤ base) (F : Fuw w0 w) (hn : NstR ps w0) (hl : ps.length ≤ 1000000) :
    Calls Tryz.prog 27 #[v, .func (.func 7) #[] #[]] w fun e w' => e = .returned (.tuple #[]) ∧ ∃ qs : List RPm, qs.map Prod.fst = sortR (ps.map Prod.fst) ∧ NstR qs w0 ∧ w'.ownsRow base 23 1 v qs.length (qs.map hdr) ∧ Fuw w0 w' := by
  rcases h.2 with ⟨rfl, h0⟩ | ⟨g, cap, cur, rfl, hb, hh, h1, h2, h3, h4⟩
  · have e := List.length_eq_zero_iff.1 h0
    subst e
    refine (AnyF.slices_SortFunc_none { Tryz.lays27 with } none 0 _ w).mono ?_
    rintro e w' ⟨rfl, rfl⟩
    exact ⟨rfl, [], rfl, NstR.nil _, World.ownsRow_nil _ _ _ _, F⟩
  · obtain ⟨xs, rfl⟩ := xs_of ps hn
    have hg : g < w.heap.size := (Array.getElem?_eq_some_iff.1 hh).1
    rw [List.length_map] at hl
    have hH : Holds (encR w0) w g 0 xs.toArray := by
      intro j hj
      have hj' : j < xs.length := by simpa using hj
      refine ⟨?_, by simp [World.frozen?, hh]⟩
      have k := h.cellAt j (by rw [List.length_map]; omega)
      rw [hdr_at (by simpa using hj')] at k
      rw [Nat.zero_add, k, getElem!_pos _ j hj]
      simp [encR]
    have eg : ∀ args w, (callFunc 7 args).run Tryz.prog w = .ok (.enter 7 args) w := enters_of Tryz.func7 (by kernel_rfl) rfl
    have hcon := Any.slices_SortFunc Tryz.lays27 (encR w0) (fun _ => rfl) (cfR w0) (rs_swo w0) 7 #[] g 0 cap xs.toArray w eg (rs_lays w0 w g F (Nat.le_trans hb0 hb) _) hH hg (by simp; omega)
    change Calls Tryz.prog 27 _ _ _ at hcon
    rw [show xs.toArray.size = (xs.map RS.p).length by simp] at hcon
    refine hcon.mono ?_
    rintro e w' ⟨rfl, D, n, os, hp, hs, rfl⟩
    have hsz : D.size = xs.length := by have := hp.1; simpa using this
    have hperm : D.toList.Perm xs := by
      have k := hp.2.2
      have e1 : D.extract 0 (xs.map RS.p).length = D := by rw [List.length_map, ← hsz]; simp
      have e2 : xs.toArray.extract 0 (xs.map RS.p).length = xs.toArray := by rw [List.length_map]; simp
      rw [e1, e2] at k
      exact k
    refine ⟨rfl, D.toList.map RS.p, ?_, ?_, ⟨by simp, .inr ⟨g, cap, _, by simp [hsz], hb, heap_srt1 _ hh, ?_, h2, by simp [putCells, h3], ?_⟩⟩, Below.grown F (grown_srt1 _) F.size (fun k hk => by cases hk; exact Nat.le_trans hb0 hb)⟩
    · refine sortR_is ?_ ?_
      · unfold SrtR
        rw [List.map_map, List.pairwise_map, List.pairwise_iff_getElem]
        intro i j hi hj hij
        have hi' : i < D.size := by simpa using hi
        have hj' : j < D.size := by simpa using hj
        have k := hs i j (Nat.zero_le _) hij (by rw [List.length_map]; omega)
        rw [getElem!_pos D j hj', getElem!_pos D i hi'] at k
        unfold ltOf cfR at k
        rw [decide_eq_false_iff_not] at k
        have a1 := ordL_swap D[i].p.1 D[j].p.1
        show ordL D.toList[i].p.1 D.toList[j].p.1 ≤ 0
        rw [Array.getElem_toList, Array.getElem_toList]
        omega
      · exact (hperm.map RS.p).map Prod.fst
    · intro p hp
      obtain ⟨x, -, rfl⟩ := List.mem_map.1 hp
      exact x.ok
    · rw [List.length_map, Array.length_toList, hsz]; simpa using h1
    · rw [List.length_map, Array.length_toList, Nat.mul_one, take_put1 _ _ _ (by rw [h3, hsz]; simp at h1; omega), List.map_map]
      rfl

/-! slices.Clone. -/
theorem infoR : (Tryz.prog.info? 23).map (fun i => (i.zero, i.size, i.bytes)) = some (some (.slice none 0 0), 1, 24) := by kernel_rfl
def RetCl (w : World) (L : List (List Vl)) (e : Ending) (w' : World) : Prop := ∃ (ps : List RPm) (v : Value), e = .returned v ∧ ps.map Prod.fst = L ∧ NstR ps w ∧ w'.ownsRow w.heap.size 23 1 v ps.length (ps.map hdr) ∧ Fuw w w'
theorem one_R (ps : List RPm) : ∀ u ∈ ps.map hdr, u.oneCell' = true := by
  intro u hu
  obtain ⟨p, -, rfl⟩ := List.mem_map.1 hu
  rfl
theorem pms_sl {w : World} {p : Addr} {L : List (List Vl)} {cap : Nat} (h : SlR w (some p) L cap) : ∃ ps : List RPm, ps.map Prod.fst = L ∧ NstR ps w ∧ ∀ j u, (ps.map hdr)[j]? = some u → w.cell? (p.add j) = some u := by
  rcases Nat.eq_zero_or_pos L.length with h0 | h0
  · exact ⟨[], (List.eq_nil_of_length_eq_zero h0).symm, NstR.nil w, fun j u h => by simp at h⟩
  · obtain ⟨b, o, e, -, hc⟩ := h.at_ h0
    cases e
    obtain ⟨ps, e, hn, hc⟩ := pms_of L o hc
    exact ⟨ps, e, hn, fun j u hu => by rw [Addr.add_lit]; exact hc j u hu⟩
set_option maxHeartbeats 2000000 in
set_option maxRecDepth 100000 in
theorem clone_rows (L : List (List Vl)) (ao : Option Addr) (cap : Nat) (w : World) (hs : SlR w ao L cap) (hl : L.length ≤ 1000000) :
    Calls Tryz.prog 26 #[.slice ao L.length cap] w (RetCl w L) := by
  obtain ⟨i0, hi, hz0, hz1, hz2⟩ := info_parts infoR
  have q22 : ∀ (w : World) (a : Option Addr) (n c n' c' : Nat), (binOp .eql 25 (.slice a n c) (.slice none n' c')).run Tryz.prog w = .ok (.bool a.isNone) w := fun w a n c n' c' => Lib.run_eql_slice_nil w _ _ a n c n' c' Tryz.underlying25
  cases ao with
  | none =>
    have hc := hs.nil rfl
    have h1 := hs.le
    obtain rfl : L = [] := List.eq_nil_of_length_eq_zero (by omega)
    clear hs
    go_enter Tryz.func26, Tryz.ntmps26
    go_wp2
    go_ret
    exact ⟨[], _, rfl, rfl, NstR.nil _, World.ownsRow_nil _ _ _ _, Fuw.refl _⟩
  | some p =>
    obtain ⟨ps, hm, hn, hc⟩ := pms_sl hs
    have HC := Lib.hid hc
    have HM := Lib.hid hm
    have HN := Lib.hid hn
    have hle : ps.length = L.length := by rw [← hm, List.length_map]
    have HLE := Lib.hid hle
    rw [← hle]
    have hl' : ps.length ≤ 1000000 := by omega
    clear hs hc hm hn hle hl
    go_enter Tryz.func26, Tryz.ntmps26
    go_wp2_with (at_builtin; refine wpList_append_own _ rfl _ _ 25 rfl w.heap.size 23 i0 _ 1 24 Tryz.underlying25 hi hz0 hz1 hz2 rfl (by decide) _ _ _ rfl (World.ownsRow_made w #[] 0 (Nat.le_refl _) (Nat.zero_le _) (by simp)) p ps.length cap (ps.map hdr) rfl ?qc1 ?qc2 ?qc3 ?qc4 ?qc5 ?qc6 ?_)
    case qc1 => rw [List.length_map]; omega
    case qc2 =>
      intro j u hj
      have k := HC.out j u hj
      exact cellOnw (fuwA w _) k
    case qc3 => exact one_R ps
    case qc4 => unfold maxLen; omega
    case qc5 => omega
    case qc6 => simp
    intro v' w1 hown hgrow hnil
    have HO := Lib.hid (show w1.ownsRow w.heap.size 23 1 v' ps.length (ps.map hdr) from by simpa using hown)
    have HG := Lib.hid (show Fuw w w1 from ((Below.refl _ w).alloc (Nat.le_refl _) _).grown hgrow (by simp) (by intro k hk; simp [Value.ownBlock] at hk; omega))
    clear hown hgrow hnil
    go_wp2
    go_ret
    exact ⟨ps, v', rfl, HM.out, HN.out, HO.out, HG.out⟩

/-! The landed SortRows and SameBag. -/
def RetRs (w : World) (L : List (List Vl)) (e : Ending) (w' : World) : Prop := ∃ ao cap, e = .returned (.slice ao L.length cap) ∧ SlR w' ao L cap ∧ Fuw w w'
set_option maxHeartbeats 2000000 in
set_option maxRecDepth 100000 in
theorem lsort_any (L : List (List Vl)) (ao : Option Addr) (cap : Nat) (w : World) (hs : SlR w ao L cap) (hl : L.length ≤ 1000000) :
    Calls Tryz.prog 6 #[.slice ao L.length cap] w (RetRs w (sortR L)) := by
  have HC := Lib.hid (clone_rows L ao cap w hs hl)
  clear hs
  go_enter Tryz.func6, Tryz.ntmps6
  go_wp2_with fail
  go_at_call 26; refine HC.out.mono ?_; rintro e1 w1 ⟨ps, v, rfl, hm, hn, hown, f1⟩
  obtain ⟨a1, c1, rfl, -, -⟩ := slR_own hown (hn.onw f1)
  have hpl : ps.length ≤ 1000000 := by rw [← hm, List.length_map] at hl; exact hl
  have HS := Lib.hid (srt_rows hown (Nat.le_refl _) f1 hn hpl)
  have HM := Lib.hid hm
  clear hm hn hown f1 hl
  go_wp2_with fail
  go_at_call 27; refine HS.out.mono ?_; rintro e2 w2 ⟨rfl, qs, hq, hnq, hown2, f2⟩
  have HR : Hid (∃ ao cap, Value.slice a1 ps.length c1 = .slice ao (sortR L).length cap ∧ SlR w2 ao (sortR L) cap) := by
    obtain ⟨a2, c2, e2, -, hsl⟩ := slR_own hown2 (hnq.onw f2)
    rw [hq, HM.out] at hsl
    refine ⟨a2, c2, ?_, hsl⟩
    rw [e2]
    have : qs.length = (sortR L).length := by rw [← HM.out, ← hq, List.length_map]
    rw [this]
  have HF := Lib.hid f2
  clear hq hnq hown2 f2
  go_wp2
  go_ret
  obtain ⟨ao, cap, he, hsl⟩ := HR.out
  exact ⟨ao, cap, by rw [he]; rfl, hsl, HF.out⟩
set_option maxHeartbeats 2000000 in
set_option maxRecDepth 100000 in
theorem lbag_any (L M : List (List Vl)) (ao bo : Option Addr) (ca cb : Nat) (w : World) (hs : SlR w ao L ca) (hs' : SlR w bo M cb) (hl : L.length ≤ 1000000) (hl' : M.length ≤ 1000000) :
    Calls Tryz.prog 11 #[.slice ao L.length ca, .slice bo M.length cb] w (RwB w (bagR L M)) := by
  have H1 := Lib.hid (lsort_any L ao ca w hs hl)
  have H2 := Lib.hid (fun w' (h : Fuw w w') => lsort_any M bo cb w' (hs'.onw h) hl')
  clear hs hs'
  unfold bagR
  generalize sortR L = L' at *
  generalize sortR M = M' at *
  go_enter Tryz.func11, Tryz.ntmps11
  go_wp2_with fail
  go_at_call 6; refine H1.out.mono ?_; rintro e1 w1 ⟨a1, c1, rfl, s1, f1⟩
  have S1 := Lib.hid s1
  clear s1
  go_wp2_with fail
  go_at_call 6; refine (H2.out w1 f1).mono ?_; rintro e2 w2 ⟨a2, c2, rfl, s2, f2⟩
  have HC := Lib.hid (lcf_rows L' M' a1 a2 c1 c2 w2 (S1.out.onw f2) s2)
  have F2 := Lib.hid (Fuw.trans f1 f2)
  clear s2 f1 f2
  generalize ordRR L' M' = r at *
  go_wp2_with fail
  go_at_call 31; refine HC.out.mono ?_; rintro e3 w3 ⟨rfl, f3⟩
  have F3 := Lib.hid (F2.out.trans f3.w)
  clear f3
  go_wp2
  go_ret
  exact ⟨ret_bool (by rw [Bool.eq_iff_iff]; simp), F3.out⟩
end Go.Proofs.YteonkiajgfkieaaGreatDoor
