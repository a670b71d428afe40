/-
  ChF; ChH; ChN: texts of one kind in one file; each part says what it holds.
-/
import Derived.Test.YtfbijdoomkgodaaGreatDoorTK20
import Derived.Deep.RegionWith

/-! Package change: looking into the graph that a call edits: where a node or an edge stands, whether a node is in use. Nothing that was there turns. -/
namespace Go.Proofs.YtfbijdoomkgodaaGreatDoor
open Go.RowKit

/-- The graph that is edited: its box, its rows; the box is none of the rows. -/
structure GBox (w0 w : World) (base B : Nat) (G : Gp) : Prop where
  own : GOwn w0 w base G
  box : Bk w B #[G.vn, G.ve, .int .i64 G.nn, .int .i64 G.ne] 25
  far : B ∉ blks G.rows
  hi : base ≤ B
theorem GBox.later {w0 w w' : World} {base B : Nat} {G : Gp} (h : GBox w0 w base B G) (hf : Fuw w w') : GBox w0 w' base B G := ⟨h.own.later hf, h.box.on hf, h.far, h.hi⟩
def RetFi (w : World) (k : Nat) (b : Bool) (e : Ending) (w' : World) : Prop := e = .returned (.tuple #[.int .i64 (k : Int), .bool b]) ∧ Fuw w w'
set_option maxHeartbeats 1600000 in
set_option maxRecDepth 100000 in
theorem fnode_any {w0 w : World} {base B : Nat} {G : Gp} (h : GBox w0 w base B G) (x : Int) (hp : G.gr.ns.Pairwise fun a b => a.id < b.id) (hn : G.ns.length ≤ 5000) :
    Calls Tryz.prog 117 #[.pointer (some ⟨B, 0, none⟩), .int .i64 x] w (RetFi w (atI (nidsV G.gr.ns) x) (hasN G.gr.ns x)) := by
  obtain ⟨a, c, e, hs⟩ := h.own.sln
  have HC := Lib.hid (show Calls Tryz.prog 130 #[.slice a G.ns.length c, .int .i64 x, .func (.func 169) #[] #[]] w (RetFi w (atI (nidsV G.gr.ns) x) (hasN G.gr.ns x)) from by
    have k := fnn_any (G.ns.map Np.nd) a c x w hs (monC_map _ x hp) (by rw [List.length_map]; exact hn)
    rw [List.length_map] at k
    refine k.mono fun e' w' ⟨h1, h2⟩ => ⟨?_, h2⟩
    rw [h1, posC_map, fnd_map _ x (show (G.ns.map Np.nd).Pairwise (fun a b => a.id < b.id) from hp)]
    rfl)
  have c0 := h.box.c 0
  have c1 := h.box.c 1
  simp only [e] at c0 c1
  generalize atI (nidsV G.gr.ns) x = k at *
  generalize hasN G.gr.ns x = b at *
  clear h hp hs hn e
  go_enter Tryz.func117, Tryz.ntmps117
  go_wp2_with fail
  go_at_call 130; refine HC.out.mono ?_; rintro e1 w1 ⟨rfl, f1⟩
  go_wp2
  go_ret2
  exact ⟨rfl, f1⟩

set_option maxHeartbeats 1600000 in
set_option maxRecDepth 100000 in
theorem fedge_any {w0 w : World} {base B : Nat} {G : Gp} (h : GBox w0 w base B G) (x : Int) (hp : G.gr.es.Pairwise fun a b => a.id < b.id) (hn : G.es.length ≤ 5000) :
    Calls Tryz.prog 119 #[.pointer (some ⟨B, 0, none⟩), .int .i64 x] w (RetFi w (atI (eidsV G.gr.es) x) (hasE G.gr.es x)) := by
  obtain ⟨a, c, e, hs⟩ := h.own.sle
  have HC := Lib.hid (show Calls Tryz.prog 172 #[.slice a G.es.length c, .int .i64 x, .func (.func 173) #[] #[]] w (RetFi w (atI (eidsV G.gr.es) x) (hasE G.gr.es x)) from by
    have k := fne_any (G.es.map Ep.ed) a c x w hs (monC_map _ x hp) (by rw [List.length_map]; exact hn)
    rw [List.length_map] at k
    refine k.mono fun e' w' ⟨h1, h2⟩ => ⟨?_, h2⟩
    rw [h1, posC_map, fnd_map _ x (show (G.es.map Ep.ed).Pairwise (fun a b => a.id < b.id) from hp)]
    rfl)
  have c0 := h.box.c 0
  have c1 := h.box.c 1
  simp only [e] at c0 c1
  generalize atI (eidsV G.gr.es) x = k at *
  generalize hasE G.gr.es x = b at *
  clear h hp hs hn e
  go_enter Tryz.func119, Tryz.ntmps119
  go_wp2_with fail
  go_at_call 172; refine HC.out.mono ?_; rintro e1 w1 ⟨rfl, f1⟩
  go_wp2
  go_ret2
  exact ⟨rfl, f1⟩

set_option maxHeartbeats 1600000 in
theorem hasnode_any {w0 w : World} {base B : Nat} {G : Gp} (h : GBox w0 w base B G) (x : Int) (hp : G.gr.ns.Pairwise fun a b => a.id < b.id) (hn : G.ns.length ≤ 5000) :
    Calls Tryz.prog 120 #[.pointer (some ⟨B, 0, none⟩), .int .i64 x] w (FwB w (hasN G.gr.ns x)) := by
  have HC := Lib.hid (fnode_any h x hp hn)
  clear h hp hn
  generalize hasN G.gr.ns x = b at *
  go_enter Tryz.func120, Tryz.ntmps120
  go_wp2_with fail
  go_at_call 117; refine HC.out.mono ?_; rintro e1 w1 ⟨rfl, f1⟩
  go_wp2
  go_ret
  exact ⟨rfl, f1⟩
/-! Whether a node is in use. -/
set_option maxHeartbeats 1600000 in
theorem used1_any (e : Ed) (ap : Option Addr) (cp : Nat) (x : Int) (B : Nat) (w : World) (c : w.cell? ⟨B, 0, none⟩ = some (.int .i64 x)) :
    Calls Tryz.prog 214 #[edv e ap cp, .pointer (some ⟨B, 0, none⟩)] w (FwB w (e.fr == x || e.to == x)) := by
  unfold edv
  have hB : B < w.heap.size := cell_lt' c
  have fA := Lib.hid (fuwA w (.cells #[.int .i64 e.id, .int .i64 e.fr, .int .i64 e.to, .string (bs e.ty), .slice ap e.ps.length cp] 58))
  by_cases h1 : e.fr = x
  · have h2 : (e.fr == x) = true := by simpa using h1
    rw [h2]
    clear h1
    go_enter Tryz.func214, Tryz.ntmps214
    go_wp2
    go_ret
    exact ⟨rfl, fA.out⟩
  · have h2 : (e.fr == x) = false := by simpa using h1
    rw [h2, Bool.false_or]
    clear h1
    go_enter Tryz.func214, Tryz.ntmps214
    go_wp2
    go_ret
    exact ⟨rfl, fA.out⟩
theorem use_take (es : List Ed) (x : Int) (i : Nat) (h : i < es.length) : useV (es.take (i + 1)) x = (useV (es.take i) x || (es[i].fr == x || es[i].to == x)) := by
  unfold useV
  rw [List.take_succ_eq_append_getElem h, List.any_append]
  simp
theorem use_in {es : List Ed} {x : Int} {i : Nat} (h : i < es.length) (k : (es[i].fr == x || es[i].to == x) = true) : useV es x = true := by
  unfold useV
  rw [List.any_eq_true]
  exact ⟨_, List.getElem_mem h, k⟩
set_option maxHeartbeats 3200000 in
set_option maxRecDepth 100000 in
theorem usei_any (es : List Ed) (ao : Option Addr) (cap : Nat) (x : Int) (B : Nat) (w : World) (hs : SlE w ao es cap) (c : w.cell? ⟨B, 0, none⟩ = some (.int .i64 x)) :
    Calls Tryz.prog 230 #[.slice ao es.length cap, .func (.func 214) #[] #[.pointer (some ⟨B, 0, none⟩)]] w (fun e w' => ∃ k : Int, e = .returned (.int .i64 k) ∧ decide (0 ≤ k) = useV es x ∧ Fuw w w') := by
  have hl := hs.len
  have HS := Lib.hid hs
  have HC := Lib.hid c
  clear hs c
  go_enter Tryz.func230, Tryz.ntmps230
  go_wp2
  go_loopw [8] (fun iv wr => ∃ i : Nat, iv = .int .i64 i ∧ i ≤ es.length ∧ Hid (useV (es.take i) x = false) ∧ Hid (Fuw w wr)) (fun iv _ => es.length - (RowKit.intOf iv).toNat)
  case atStart => exact ⟨0, rfl, Nat.zero_le _, rfl, Fuw.refl _⟩
  case round =>
    obtain ⟨i, rfl, hi, HN, hf⟩ := hrel
    by_cases hlt : i < es.length
    · obtain ⟨b, o, rfl, -, -, -, -, c0, c1, c2, c3, a2, k2, c4, -⟩ := (slE_on hf.out HS.out).get hlt
      have HU := Lib.hid (used1_any es[i] a2 k2 x B wr (cellOnw hf.out HC.out))
      have HT := Lib.hid (use_take es x i hlt)
      have HI := Lib.hid (show (es[i].fr == x || es[i].to == x) = true → useV es x = true from use_in hlt)
      rw [HN.out, Bool.false_or] at HT
      unfold edv at HU
      clear HN
      generalize es[i] = n at *
      generalize (n.fr == x || n.to == x) = q at *
      go_wp2_with fail
      go_at_call 214; refine HU.out.mono ?_; rintro e1 w1 ⟨rfl, f1⟩
      have HF := Lib.hid (hf.out.trans f1)
      clear f1 hf
      cases q with
      | true =>
        have HY := Lib.hid (show decide ((0 : Int) ≤ (i : Int)) = useV es x by rw [HI.out (by first | rfl | trivial)]; exact decide_eq_true (by omega))
        go_wp2
        go_ret
        exact ⟨_, rfl, HY.out, HF.out⟩
      | false =>
        go_wp2
        go_roundw
        case rel => exact ⟨i + 1, by go_num, by omega, HT.out, HF.out⟩
        case measure => simp [RowKit.intOf]; omega
    · have HY := Lib.hid (show decide ((0 : Int) ≤ -1) = useV es x by
        have := HN.out
        rw [List.take_of_length_le (by omega)] at this
        rw [this]; rfl)
      go_wp2
      go_ret
      exact ⟨-1, rfl, HY.out, hf.out⟩
set_option maxHeartbeats 1600000 in
set_option maxRecDepth 100000 in
theorem used_any {w0 w : World} {base B : Nat} {G : Gp} (h : GBox w0 w base B G) (x : Int) :
    Calls Tryz.prog 183 #[.pointer (some ⟨B, 0, none⟩), .int .i64 x] w (FwB w (useV G.gr.es x)) := by
  obtain ⟨a, c, e, hs⟩ := h.own.sle
  obtain ⟨W, hW⟩ : ∃ W, W = w.alloc (.cells #[.int .i64 x] 3) := ⟨_, rfl⟩
  have fW : Fuw w W := by rw [hW]; exact fuwA _ _
  have bW : Bk W w.heap.size #[.int .i64 x] 3 := by rw [hW]; exact Bk.new _ _ _
  have HI := Lib.hid (show Calls Tryz.prog 230 #[.slice a G.es.length c, .func (.func 214) #[] #[.pointer (some ⟨w.heap.size, 0, none⟩)]] W (fun e w' => ∃ k : Int, e = .returned (.int .i64 k) ∧ decide (0 ≤ k) = useV G.gr.es x ∧ Fuw W w') from by
    have k := usei_any (G.es.map Ep.ed) a c x w.heap.size W (slE_on fW hs) (bW.c 0)
    rw [List.length_map] at k
    exact k)
  have c0 := (h.box.on fW).c 0
  have c1 := (h.box.on fW).c 1
  simp only [e] at c0 c1
  generalize useV G.gr.es x = b at *
  have HWW := Lib.hid hW
  clear hW
  have HCF := Lib.hid (show Calls Tryz.prog 213 #[.slice a G.es.length c, .func (.func 214) #[] #[.pointer (some ⟨w.heap.size, 0, none⟩)]] W (FwB W b) from by
    clear c0 c1 h hs e
    go_enter Tryz.func213, Tryz.ntmps213
    go_wp2_with fail
    go_at_call 230; refine HI.out.mono ?_; rintro e1 w1 ⟨k, rfl, hk, f1⟩
    have HK := Lib.hid hk
    clear hk
    go_wp2
    go_ret
    exact ⟨ret_bool HK.out, f1⟩)
  have FW := Lib.hid fW
  clear h hs e HI bW fW
  go_enter Tryz.func183, Tryz.ntmps183
  go_upto_region 1 with fail
  rw [← HWW.out]
  go_wp2_with fail
  go_at_call 213; refine HCF.out.mono ?_; rintro e1 w1 ⟨rfl, f1⟩
  go_wp2
  go_ret
  exact ⟨rfl, FW.out.trans f1⟩
end Go.Proofs.YtfbijdoomkgodaaGreatDoor

/-! A graph that is edited: what comes of its rows when one of them turns, when a node or an edge comes or goes. No program's function is walked here. -/
namespace Go.Proofs.YtfbijdoomkgodaaGreatDoor
open Go.RowKit

theorem Rows.far {w : World} {base B j : Nat} {L : List Rw} {u : Value} (h : Rows w base L) (hB : B ∉ blks L) : Rows (w.setCell ⟨B, j, none⟩ u) base L := by
  refine ⟨fun r hr => ?_, h.apart⟩
  refine own_heap (h.own r hr) fun g hg => ?_
  have : B ≠ g := fun e => hB (blks_mem.2 ⟨r, hr, by rw [e]; exact hg⟩)
  exact heap_far this
theorem Rows.drew {w : World} {base : Nat} {L : List Rw} (h : Rows w base L) : Rows w.drew base L := ⟨fun r hr => own_heap (h.own r hr) fun _ _ => rfl, h.apart⟩
/-- A row that is nil joins. -/
theorem Rows.none_ {w : World} {base : Nat} {L : List Rw} (h : Rows w base L) (e : TypeId) (s : Nat) : Rows w base (⟨e, s, .slice none 0 0, 0, []⟩ :: L) :=
  h.more (Fuw.refl w) (World.ownsRow_nil _ _ _ _) (fun k hk => by cases hk)
/-- A row goes. -/
theorem Rows.sub {w : World} {base : Nat} {L M : List Rw} (h : Rows w base L) (hs : M.Sublist L) : Rows w base M :=
  ⟨fun r hr => h.own r (hs.subset hr), (hs.filterMap _).nodup h.apart⟩
theorem take_mul_app {α : Type} (f : α → List Value) (s : Nat) (hf : ∀ x, (f x).length = s) : ∀ (l : List α) (p : Nat), (l.take p).flatMap f = (l.flatMap f).take (p * s) ∧ (l.drop p).flatMap f = (l.flatMap f).drop (p * s)
  | [], p => by simp
  | x :: r, 0 => by simp
  | x :: r, p + 1 => by
    obtain ⟨h1, h2⟩ := take_mul_app f s hf r p
    have e : (p + 1) * s = (f x).length + p * s := by rw [hf, Nat.add_mul, Nat.one_mul, Nat.add_comm]
    constructor
    · rw [List.take_succ_cons, List.flatMap_cons, List.flatMap_cons, h1, e, List.take_length_add_append]
    · rw [List.drop_succ_cons, List.flatMap_cons, h2, e, List.drop_length_add_append]
theorem csN_ins (ns : List Np) (p : Nat) (x : Np) : csN (insA ns p x) = (csN ns).take (p * 3) ++ x.C ++ (csN ns).drop (p * 3) := by
  obtain ⟨h1, h2⟩ := take_mul_app Np.C 3 (fun _ => rfl) ns p
  unfold insA csN
  rw [List.flatMap_append, List.flatMap_cons, h1, h2, List.append_assoc]
theorem csN_del (ns : List Np) (p : Nat) : csN (delA ns p) = (csN ns).take (p * 3) ++ (csN ns).drop ((p + 1) * 3) := by
  unfold delA csN
  rw [List.flatMap_append, (take_mul_app Np.C 3 (fun _ => rfl) ns p).1, (take_mul_app Np.C 3 (fun _ => rfl) ns (p + 1)).2]
theorem csE_ins (es : List Ep) (p : Nat) (x : Ep) : csE (insA es p x) = (csE es).take (p * 5) ++ x.C ++ (csE es).drop (p * 5) := by
  obtain ⟨h1, h2⟩ := take_mul_app Ep.C 5 (fun _ => rfl) es p
  unfold insA csE
  rw [List.flatMap_append, List.flatMap_cons, h1, h2, List.append_assoc]
theorem csE_del (es : List Ep) (p : Nat) : csE (delA es p) = (csE es).take (p * 5) ++ (csE es).drop ((p + 1) * 5) := by
  unfold delA csE
  rw [List.flatMap_append, (take_mul_app Ep.C 5 (fun _ => rfl) es p).1, (take_mul_app Ep.C 5 (fun _ => rfl) es (p + 1)).2]
theorem perm_ins {α : Type} (l : List α) (p : Nat) (x : α) : (insA l p x).Perm (x :: l) := by
  unfold insA
  have h := List.perm_middle (a := x) (l₁ := l.take p) (l₂ := l.drop p)
  rw [List.take_append_drop] at h
  exact h
theorem sub_del {α : Type} (l : List α) (p : Nat) : (delA l p).Sublist l := by
  unfold delA
  have h : (l.take p ++ l.drop (p + 1)).Sublist (l.take p ++ l.drop p) := (List.drop_sublist_drop_left l (Nat.le_succ p)).append_left _
  rwa [List.take_append_drop] at h
theorem inR_insN (ns : List Np) (es : List Ep) (xs : List Rw) (p : Nat) (x : Np) : (x.rows ++ inR ns es xs).Perm (inR (insA ns p x) es xs) := by
  unfold inR
  rw [← List.append_assoc]
  refine List.Perm.append_right _ ?_
  have := ((perm_ins ns p x).flatMap_right Np.rows).symm
  rwa [List.flatMap_cons] at this
theorem inR_insE (ns : List Np) (es : List Ep) (xs : List Rw) (p : Nat) (x : Ep) : (x.rows ++ inR ns es xs).Perm (inR ns (insA es p x) xs) := by
  unfold inR
  refine (List.perm_append_comm_assoc _ _ _).trans ?_
  refine List.Perm.append_left _ ?_
  have := (((perm_ins es p x).flatMap_right Ep.rows).symm).append_right xs
  rwa [List.flatMap_cons, List.append_assoc] at this
theorem one_csN {w0 : World} {ns : List Np} (hl : ∀ x ∈ ns, ∃ a c a' c', x.vl = .slice a x.ls.length c ∧ x.vp = .slice a' x.pm.length c') : ∀ u ∈ csN ns, u.oneCell' = true := by
  have _ := w0
  intro u hu
  obtain ⟨x, hx, hm⟩ := List.mem_flatMap.1 hu
  obtain ⟨a, c, a', c', e1, e2⟩ := hl x hx
  unfold Np.C at hm
  rw [e1, e2] at hm
  simp only [List.mem_cons, List.not_mem_nil, or_false] at hm
  rcases hm with rfl | rfl | rfl <;> rfl
theorem GOwn.oneN {w0 w : World} {base : Nat} {G : Gp} (h : GOwn w0 w base G) : ∀ u ∈ csN G.ns, u.oneCell' = true := one_csN (w0 := w0) fun x hx => by
  obtain ⟨a, c, e, -⟩ := ls_row (h.lrow hx) (h.no _ hx).l
  obtain ⟨a', c', e', -⟩ := pm_row (h.prow hx) (h.no _ hx).p h.fu
  exact ⟨a, c, a', c', e, e'⟩
theorem GOwn.oneE {w0 w : World} {base : Nat} {G : Gp} (h : GOwn w0 w base G) : ∀ u ∈ csE G.es, u.oneCell' = true := by
  intro u hu
  obtain ⟨x, hx, hm⟩ := List.mem_flatMap.1 hu
  obtain ⟨a', c', e', -⟩ := pm_row (h.qrow hx) (h.eo _ hx).p h.fu
  unfold Ep.C at hm
  rw [e'] at hm
  simp only [List.mem_cons, List.not_mem_nil, or_false] at hm
  rcases hm with rfl | rfl | rfl | rfl | rfl <;> rfl
theorem GOwn.far {w0 w : World} {base B j : Nat} {G : Gp} {u : Value} (h : GOwn w0 w base G) (hB : B ∉ blks G.rows) (hb : base ≤ B) : GOwn w0 (w.setCell ⟨B, j, none⟩ u) base G :=
  ⟨h.rows.far hB, h.no, h.eo, h.i1, h.i2, fuwS h.fu (Nat.le_trans h.lo hb), h.lo⟩
theorem GOwn.drew {w0 w : World} {base : Nat} {G : Gp} (h : GOwn w0 w base G) : GOwn w0 w.drew base G := ⟨h.rows.drew, h.no, h.eo, h.i1, h.i2, Fuw.drew h.fu, h.lo⟩
theorem blks_addN {G : Gp} {v' : Value} {p : Nat} {x nn : Int} {k : Nat} (h : k ∈ blks ({ G with vn := v', ns := insA G.ns p ⟨x, [], .slice none 0 0, [], .slice none 0 0⟩, nn := nn } : Gp).rows) : v'.ownBlock = some k ∨ k ∈ blks G.rows := by
  obtain ⟨r, hr, hk⟩ := blks_mem.1 h
  rcases List.mem_cons.1 hr with rfl | hr
  · exact .inl hk
  · refine .inr (blks_mem.2 ⟨r, ?_, hk⟩)
    rcases List.mem_cons.1 hr with rfl | hr
    · exact List.mem_cons_of_mem _ (List.mem_cons_self ..)
    · have hr' := (inR_insN G.ns G.es G.xs p ⟨x, [], .slice none 0 0, [], .slice none 0 0⟩).mem_iff.2 hr
      rcases List.mem_append.1 hr' with e | e
      · exfalso
        simp only [Np.rows, List.mem_cons, List.not_mem_nil, or_false] at e
        rcases e with rfl | rfl <;> cases hk
      · exact List.mem_cons_of_mem _ (List.mem_cons_of_mem _ e)
/-- The node's row has another shape; a node without labels and properties has come. -/
theorem GOwn.addN {w0 w w' : World} {base : Nat} {G : Gp} (h : GOwn w0 w base G) {v' : Value} {p : Nat} {x : Int} (hx : I64 x) (hp : p ≤ G.ns.length) (nn : Int) (hnn : I64 nn)
    (ho : w'.ownsRow base 56 3 v' (G.ns.length + 1) ((csN G.ns).take (p * 3) ++ [.int .i64 x, .slice none 0 0, .slice none 0 0] ++ (csN G.ns).drop (p * 3)))
    (hg : w.grownBy w' G.vn.ownBlock) (hat : v'.ownBlock = G.vn.ownBlock ∨ ∀ k, v'.ownBlock = some k → w.heap.size ≤ k) (hf : Fuw w0 w') :
    GOwn w0 w' base { G with vn := v', ns := insA G.ns p ⟨x, [], .slice none 0 0, [], .slice none 0 0⟩, nn := nn } := by
  have _ := hp
  refine ⟨?_, fun y hy => ?_, h.eo, hnn, h.i2, hf, h.lo⟩
  · have e : rowN v' (insA G.ns p ⟨x, [], .slice none 0 0, [], .slice none 0 0⟩) = ⟨56, 3, v', G.ns.length + 1, (csN G.ns).take (p * 3) ++ [.int .i64 x, .slice none 0 0, .slice none 0 0] ++ (csN G.ns).drop (p * 3)⟩ := by
      unfold rowN
      rw [csN_ins, insA_len]
      rfl
    have h1 : Rows w' base (rowN v' (insA G.ns p ⟨x, [], .slice none 0 0, [], .slice none 0 0⟩) :: rowE G.ve G.es :: inR G.ns G.es G.xs) := by
      rw [e]
      exact Rows.turn h.rows hg ho hat
    have h2 := (h1.none_ 53 6).none_ 9 1
    refine h2.perm ?_
    show (_ :: _ :: rowN v' _ :: rowE G.ve G.es :: inR G.ns G.es G.xs).Perm (rowN v' _ :: rowE G.ve G.es :: inR (insA G.ns p ⟨x, [], .slice none 0 0, [], .slice none 0 0⟩) G.es G.xs)
    have k := inR_insN G.ns G.es G.xs p ⟨x, [], .slice none 0 0, [], .slice none 0 0⟩
    refine List.Perm.trans ?_ ((k.cons _).cons _)
    show ([_, _] ++ ([_, _] ++ inR G.ns G.es G.xs)).Perm ([_, _] ++ ([_, _] ++ inR G.ns G.es G.xs))
    exact List.perm_append_comm_assoc _ _ _
  · rcases insA_mem.1 hy with rfl | hy
    · exact ⟨hx, (fun s hs => by cases hs), (fun q hq => by cases hq)⟩
    · exact h.no y hy
end Go.Proofs.YtfbijdoomkgodaaGreatDoor

/-! Package change: a node added to the graph that is edited. -/
namespace Go.Proofs.YtfbijdoomkgodaaGreatDoor
open Go.RowKit

/-- A change as the model has it. -/
def chC (c : Ch) (a : Option Addr) (k : Nat) : Array Value := #[.int .i64 c.op, .int .i64 c.id, .int .i64 c.fr, .int .i64 c.tt, .string (bs c.nm), .int .i64 c.v.kd, .int .i64 c.v.nn, .int .i64 c.v.dd, .string (bs c.v.ss), .slice a c.v.ll.length k]
structure ChIn (w : World) (c : Ch) (a : Option Addr) (k : Nat) : Prop where
  o : I64 c.op
  i : I64 c.id
  f : I64 c.fr
  t : I64 c.tt
  n : c.nm.length ≤ maxLen
  v : Vin c.v
  s : SlV w a c.v.ll k
theorem ChIn.on {w w' : World} {c : Ch} {a : Option Addr} {k : Nat} (h : ChIn w c a k) (hf : Fuw w w') : ChIn w' c a k := ⟨h.o, h.i, h.f, h.t, h.n, h.v, h.s.onw hf⟩
/-- What an edit answers, and what it leaves. -/
def RetEd (w0 w : World) (base B : Nat) (xs : List Rw) (err : Int) (g : Gr) (e : Ending) (w' : World) : Prop :=
  e = .returned (.int .i64 err) ∧ Below base w w' ∧ w.heap.size ≤ w'.heap.size ∧ (err = 0 → ∃ G', GBox w0 w' base B G' ∧ G'.gr = g ∧ G'.xs = xs)
structure GVal (g : Gr) : Prop where
  n : g.ns.length ≤ 2000
  e : g.es.length ≤ 4000
  pn : g.ns.Pairwise (fun a b => a.id < b.id)
  pe : g.es.Pairwise (fun a b => a.id < b.id)
  nn : 1 ≤ g.nn ∧ g.nn ≤ 1000001
  ne : 1 ≤ g.ne ∧ g.ne ≤ 1000001
theorem _root_.Go.Proofs.YtfbijdoomkgodaaGreatDoor.Fuw.trans_below {a b c : World} {base : Nat} (h : Fuw a b) (k : Below base b c) (hb : a.heap.size ≤ base) : Fuw a c := Below.trans h (Below.mono k hb)
theorem below_of {w w' : World} {base : Nat} (h : Fuw w w') (hb : base ≤ w.heap.size) : Below base w w' := Below.mono h hb
theorem below_grown {w w' : World} {base : Nat} {r : Option Nat} (h : w.grownBy w' r) (hb : base ≤ w.heap.size) (hr : ∀ k, r = some k → base ≤ k) : Below base w w' :=
  ⟨h.os, h.tape, h.output, h.size, fun b hlt => h.block b (Nat.lt_of_lt_of_le hlt hb) (fun e => by have := hr b e.symm; omega)⟩
set_option maxHeartbeats 3200000 in
set_option maxRecDepth 100000 in
theorem addnode_any {w0 w : World} {base B : Nat} {G : Gp} (h : GBox w0 w base B G) (hv : GVal G.gr) (c : Ch) (a : Option Addr) (k : Nat) (hi : 1 ≤ c.id ∧ c.id ≤ 1000000) :
    Calls Tryz.prog 81 #[.pointer (some ⟨B, 0, none⟩), .agg (chC c a k)] w (RetEd w0 w base B G.xs (if hasN G.gr.ns c.id = true then 7 else if 2000 ≤ G.gr.ns.length then 20 else 0) (addN G.gr c.id)) := by
  have hlb : base ≤ w.heap.size := Nat.le_trans h.hi (Nat.le_of_lt h.box.lt)
  obtain ⟨W, hW⟩ : ∃ W, W = w.alloc (.cells (chC c a k) 30) := ⟨_, rfl⟩
  have fW : Fuw w W := by rw [hW]; exact fuwA _ _
  have bW : Bk W w.heap.size (chC c a k) 30 := by rw [hW]; exact Bk.new _ _ _
  have hGW := h.later fW
  have HFN := Lib.hid (fnode_any hGW c.id hv.pn (by have := hv.n; unfold Gp.gr at this; rw [List.length_map] at this; omega))
  obtain ⟨R, hR⟩ : ∃ R, R = (if hasN G.gr.ns c.id = true then 7 else if 2000 ≤ G.gr.ns.length then 20 else 0 : Int) := ⟨_, rfl⟩
  rw [← hR]
  generalize hasN G.gr.ns c.id = q at *
  have HR := Lib.hid hR
  clear hR
  obtain ⟨p, hp⟩ : ∃ p, p = atI (nidsV G.gr.ns) c.id := ⟨_, rfl⟩
  rw [← hp] at HFN
  have HBW := Lib.hid bW
  have HGW := Lib.hid hGW
  have HFW := Lib.hid fW
  have HP := Lib.hid hp
  have d1 := bW.c 1
  have HL := Lib.hid hlb
  have HV := Lib.hid hv
  have HI := Lib.hid hi
  have HLB := Lib.hid (show B < w.heap.size from h.box.lt)
  have HLT := Lib.hid (fun k (e : G.vn.ownBlock = some k) => (h.own.nrow.lt k e).2)
  unfold chC at hW d1 ⊢
  clear hp h hv hGW fW bW hlb hi
  go_enter Tryz.func81, Tryz.ntmps81
  go_upto_region 1 with fail
  rw [← hW]
  clear hW
  go_wp2_with fail
  go_at_call 117; refine HFN.out.mono ?_; rintro e1 w1 ⟨rfl, f1⟩
  have HF1 := Lib.hid (HFW.out.trans f1)
  have HG1 := Lib.hid (HGW.out.later f1)
  have HB1 := Lib.hid (HBW.out.on f1)
  clear d1 f1 HFN HGW HBW
  cases q with
  | true =>
    have HE := Lib.hid (show R = 7 from HR.out.trans (if_pos rfl))
    go_wp2
    go_ret
    exact ⟨ret_int HE.out.symm, below_of HF1.out HL.out, HF1.out.size, fun e => by rw [HE.out] at e; cases e⟩
  | false =>
    obtain ⟨an, cn, en, -⟩ := HG1.out.own.sln
    have c0 := HG1.out.box.c 0
    simp only [en] at c0
    have HEN := Lib.hid en
    clear en
    have hlen : G.gr.ns.length = G.ns.length := by unfold Gp.gr; rw [List.length_map]
    by_cases hfull : 2000 ≤ G.ns.length
    · have hq : ((G.ns.length : Int) == 2000) = true := by
        have := HV.out.n
        rw [hlen] at this
        rw [beq_iff_eq]; omega
      have HE := Lib.hid (show R = 20 from HR.out.trans ((if_neg (by decide)).trans (if_pos (by rw [hlen]; exact hfull))))
      clear hlen
      go_wp2
      go_ret
      exact ⟨ret_int HE.out.symm, below_of HF1.out HL.out, HF1.out.size, fun e => by rw [HE.out] at e; cases e⟩
    · have hq : ((G.ns.length : Int) == 2000) = false := by rw [beq_eq_false_iff_ne]; omega
      have HE := Lib.hid (show R = 0 from HR.out.trans ((if_neg (by decide)).trans (if_neg (by rw [hlen]; exact hfull))))
      clear hlen
      have hpl : p ≤ G.ns.length := by
        rw [HP.out]
        have := atI_le (nidsV G.gr.ns) c.id
        unfold nidsV Gp.gr at this
        rw [List.length_map, List.length_map] at this
        exact this
      have HIN := Lib.hid (show Calls Tryz.prog 118 #[.slice an G.ns.length cn, .int .i64 (p : Int), .slice (some ⟨w1.heap.size, 0, none⟩) 1 1] (w1.drew.alloc (.cells #[.int .i64 c.id, .slice none 0 0, .slice none 0 0] 56)) (RetIns (w1.drew.alloc (.cells #[.int .i64 c.id, .slice none 0 0, .slice none 0 0] 56)) base 56 3 (.slice an G.ns.length cn) (G.ns.length + 1) ((csN G.ns).take (p * 3) ++ [.int .i64 c.id, .slice none 0 0, .slice none 0 0] ++ (csN G.ns).drop (p * 3))) from by
        have hr := HG1.out.own.nrow
        unfold rowN Rw.Own at hr
        simp only [HEN.out] at hr
        have hr2 := own_on hr (show Fuw w1 (w1.drew.alloc (.cells #[.int .i64 c.id, .slice none 0 0, .slice none 0 0] 56)) from (Fuw.drew (Fuw.refl _)).alloc _)
        exact ins_n hr2 p hpl (by omega) (by have := HF1.out.size; have := HL.out; simp; omega) (Bk.new w1.drew _ _) rfl (fun e => by have := (hr.lt _ e).2; omega) HG1.out.own.oneN (by intro u hu; simp at hu; rcases hu with rfl | rfl | rfl <;> rfl))
      have HNE := Lib.hid (show some B ≠ (Value.slice an G.ns.length cn).ownBlock from fun e => HG1.out.far (blks_mem.2 ⟨rowN G.vn G.ns, List.mem_cons_self .., by unfold rowN; rw [HEN.out]; exact e.symm⟩))
      have HBX := Lib.hid (show Bk (w1.drew.alloc (.cells #[.int .i64 c.id, .slice none 0 0, .slice none 0 0] 56)) B #[.slice an G.ns.length cn, G.ve, .int .i64 G.nn, .int .i64 G.ne] 25 from by
        have := HG1.out.box.on (show Fuw w1 (w1.drew.alloc (.cells #[.int .i64 c.id, .slice none 0 0, .slice none 0 0] 56)) from (Fuw.drew (Fuw.refl _)).alloc _)
        rw [HEN.out] at this
        exact this)
      clear hfull
      have d1 := HB1.out.c 1
      unfold chC at d1
      have lB : B < w1.heap.size := HG1.out.box.lt
      have lC : w.heap.size < w1.heap.size := HB1.out.lt
      go_upto_region 6 with fail
      go_region_with (first
        | (go_at_call 118; refine (HIN.out).mono ?_; rintro e2 w2 ⟨v2, rfl, hown2, hgr2, hat2⟩; obtain ⟨g2, k2, rfl, hg2, hg2'⟩ := hown2.form (by omega); have hb2 := HBX.out.grow hgr2 HNE.out; have m0 := hb2.c 0; have z0 := hb2.f 0))
      all_goals
        have HFA := Lib.hid (show Fuw w1 (w1.drew.alloc (.cells #[.int .i64 c.id, .slice none 0 0, .slice none 0 0] 56)) from (Fuw.drew (Fuw.refl _)).alloc _)
        have HGA := Lib.hid (HG1.out.own.later HFA.out)
        obtain ⟨M, hM⟩ : ∃ M, M = max G.nn (c.id + 1) := ⟨_, rfl⟩
        have hMi : I64 M := by
          have h1 := HV.out.nn
          have h2 := HI.out
          have e1 : G.gr.nn = G.nn := rfl
          rw [e1] at h1
          unfold I64
          omega
        have HF2 := Lib.hid (show Below base w1 w2 from Below.trans (below_of HFA.out (by have := HF1.out.size; have := HL.out; omega)) (below_grown hgr2 (by have := HF1.out.size; have := HL.out; simp; omega) (fun k hk => (HG1.out.own.nrow.lt k (by show G.vn.ownBlock = some k; rw [HEN.out]; exact hk)).1)))
        have hfu : Fuw w0 w2 := HG1.out.own.fu.trans_below HF2.out HG1.out.own.lo
        have hng := GOwn.addN HGA.out (v' := .slice (some ⟨g2, 0, none⟩) (G.ns.length + 1) k2) (p := p) (x := c.id) (by have := HI.out; unfold I64; omega) hpl M hMi hown2 (by rw [HEN.out]; exact hgr2) (by rw [HEN.out]; exact hat2) hfu
        have hfar : B ∉ blks ({ G with vn := .slice (some ⟨g2, 0, none⟩) (G.ns.length + 1) k2, ns := insA G.ns p ⟨c.id, [], .slice none 0 0, [], .slice none 0 0⟩, nn := M } : Gp).rows := fun hB => by
          rcases blks_addN hB with e | e
          · rcases hat2 with q | q
            · exact HNE.out (by rw [← e, q])
            · have := q B e
              have := HG1.out.box.lt
              simp at *
              omega
          · exact HG1.out.far e
        obtain ⟨V, hV⟩ : ∃ V, V = w2.setCell ⟨B, 0, none⟩ (.slice (some ⟨g2, 0, none⟩) (G.ns.length + 1) k2) := ⟨_, rfl⟩
        have bV : Bk V B #[.slice (some ⟨g2, 0, none⟩) (G.ns.length + 1) k2, G.ve, .int .i64 G.nn, .int .i64 G.ne] 25 := by rw [hV]; exact hb2.set_ 0 _
        have bC : Bk V w.heap.size (chC c a k) 30 := by
          rw [hV]
          refine ((HB1.out.on HFA.out).grow hgr2 (fun e => ?_)).far (show w.heap.size ≠ B from fun e => by have := HLB.out; omega) _
          have := HLT.out w.heap.size (by rw [HEN.out]; exact e.symm)
          omega
        have HFIN := Lib.hid (show RetEd w0 w base B G.xs R (addN G.gr c.id) (.returned (.int .i64 R)) ((V.setCell ⟨B, 2, none⟩ (.int .i64 M)).drew) from by
          have hbB : base ≤ B := HG1.out.hi
          have hBV : V.heap.size = w2.heap.size := by rw [hV]; simp
          refine ⟨rfl, ?_, ?_, fun _ => ⟨_, ⟨?_, ?_, hfar, hbB⟩, ?_, rfl⟩⟩
          · refine Below.drew (Below.setCell ?_ hbB _)
            rw [hV]
            exact Below.setCell ((below_of HF1.out HL.out).trans (HF2.out)) hbB _
          · have := HF1.out.size
            have := HF2.out.size
            simp [hBV]; omega
          · refine (GOwn.far ?_ hfar hbB).drew
            rw [hV]
            exact hng.far hfar hbB
          · exact bV.set_ 2 (.int .i64 M)
          · unfold Gp.gr addN
            simp only
            rw [insA_map, hM, HP.out]
            rfl)
        rw [← hV]
        have m2 := bV.c 2
        have z2 := bV.f 2
        have n1 := bC.c 1
        unfold chC at n1
        have hwr : IntKind.i64.wrap (c.id + 1) = c.id + 1 := by have := HI.out; rw [IntKind.wrap_i64]; omega
        have HMM := Lib.hid hM
        have HRZ := Lib.hid HE.out
        clear hV bV bC hng hfar hfu hMi hM hat2 hgr2 hown2 hb2 m0 z0 hg2 hg2' c0 d1 HIN hpl hq
        rw [HMM.out] at HFIN
        go_upto_region 7 with fail
        go_region
        all_goals
          go_wp2
          go_ret
          exact (by rw [HRZ.out] at HFIN ⊢; exact HFIN.out)
end Go.Proofs.YtfbijdoomkgodaaGreatDoor
