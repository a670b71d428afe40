/-
  Package schema: words for ends and kinds; the text of a rule (Text). Condition: in the world at the call the library's table of powers of ten reads as its initialiser lays it (Good). Nothing that was there turns.
-/
import Derived.Test.YtadnaakbhgacgaaDoorScJ
import Derived.Test.YtadnaakbhgacgaaDoorShelf
import Derived.FnData
import Derived.Lib.ItoaLen
namespace Go.Proofs.YtadnaakbhgacgaaDoor
open Go.RowKit
open Go.Lib (itoa join)

theorem var_on {P : Program} {w w' : World} {n : String} {cs : Array Value} (h : w.var? P n = some cs) (hb : Fuw w w') : w'.var? P n = some cs := by
  unfold World.var? at *
  cases hg : P.globalNamed n with
  | none => simp [hg] at h
  | some g =>
    simp only [hg, Option.bind_some] at h ⊢
    have hlt : g < w.heap.size := by
      rcases Nat.lt_or_ge g w.heap.size with h' | h'
      · exact h'
      · rw [Array.getElem?_eq_none h'] at h; simp at h
    rw [Below.block hb g hlt]
    exact h
/-- The listed variables read as laid. -/
structure Good (w : World) : Prop where
  tab : Lib.TabIs Tryd.prog w "internal/strconv.uint64pow10" .u64 Lib.pow10Tab
  e1 : ∃ t p, w.var? Tryd.prog "strconv.ErrSyntax" = some #[.iface t p]
  e2 : ∃ t p, w.var? Tryd.prog "strconv.ErrRange" = some #[.iface t p]
theorem Good.on {w w' : World} (h : Good w) (hb : Fuw w w') : Good w' :=
  ⟨var_on h.tab hb, h.e1.imp fun _ k => k.imp fun _ k => var_on k hb, h.e2.imp fun _ k => k.imp fun _ k => var_on k hb⟩
theorem fuw_grow (w : World) (k : Nat) (os : Array Obj) : Fuw w (Go.Sort.grow (w.drewN k) os) :=
  ⟨rfl, rfl, rfl, by show w.heap.size ≤ (w.heap ++ os).size; rw [Array.size_append]; omega, fun j hj => by
    show (w.heap ++ os)[j]? = w.heap[j]?
    rw [Array.getElem?_append_left hj]⟩
theorem itoa_any (n : Int) (hn : I64 n) (w : World) (G : Good w) : Calls Tryd.prog 34 #[.int .i64 n] w (FwT w (bs (itoa n))) :=
  (Tryd.strconv_Itoa n hn.1 hn.2 w G.tab).mono fun _ _ ⟨he, _, _, hw⟩ => ⟨he, hw ▸ fuw_grow _ _ _⟩

theorem endW_any (s : List UInt8) (w : World) : Calls Tryd.prog 32 #[.string (bs s)] w (PureT w (bs (endW s))) := by
  unfold endW
  cases e : s.isEmpty with
  | true =>
    obtain rfl : s = [] := List.isEmpty_iff.1 e
    show Calls Tryd.prog 32 #[.string ⟨#[]⟩] w (PureT w ⟨#[42]⟩)
    clear e
    go_enter Tryd.func32, Tryd.ntmps32
    go_wp2
    go_ret
    exact ⟨rfl, rfl⟩
  | false =>
    rw [if_neg Bool.false_ne_true]
    have e1 : ¬ (bs s).toList = [] := by rw [bs_list]; rintro rfl; cases e
    have e2 : (bs s).toList.isEmpty = false := by rw [bs_list]; exact e
    clear e
    go_enter Tryd.func32, Tryd.ntmps32
    go_wp2
    go_ret
    exact ⟨rfl, rfl⟩
/-! Rows of strings of the call's own. -/
def sC (l : List (List UInt8)) : List Value := l.map fun s => .string (bs s)
theorem sC_len (l : List (List UInt8)) : (sC l).length = l.length := by unfold sC; simp
theorem sC_app (a b : List (List UInt8)) : sC (a ++ b) = sC a ++ sC b := by unfold sC; simp
theorem oneS (l : List (List UInt8)) : ∀ u ∈ sC l, u.oneCell' = true := by
  intro u hu
  unfold sC at hu
  obtain ⟨s, -, rfl⟩ := List.mem_map.1 hu
  rfl
theorem own_slice {w : World} {base e size : Nat} {v : Value} {n : Nat} {xs : List Value} (h : w.ownsRow base e size v n xs) : ∃ a k, v = .slice a n k := by
  rcases h.2 with ⟨rfl, rfl⟩ | ⟨g, cap, cur, rfl, _⟩
  · exact ⟨none, 0, rfl⟩
  · exact ⟨_, cap, rfl⟩
theorem own_on {w w' : World} {base e size : Nat} {v : Value} {n : Nat} {xs : List Value} (h : w.ownsRow base e size v n xs) (hf : Fuw w w') : w'.ownsRow base e size v n xs := by
  refine ⟨h.1, ?_⟩
  rcases h.2 with h0 | ⟨g, cap, cur, hv, hg, hh, rest⟩
  · exact .inl h0
  · refine .inr ⟨g, cap, cur, hv, hg, ?_, rest⟩
    have hlt : g < w.heap.size := by
      rcases Nat.lt_or_ge g w.heap.size with k | k
      · exact k
      · rw [Array.getElem?_eq_none k] at hh; cases hh
    rw [Below.block hf g hlt]; exact hh
theorem own_box {w : World} {base B : Nat} {l : List (List UInt8)} (hB : base ≤ B) (h : Bk w B (sC l).toArray 9) (hl : l.length ≤ 1000) : w.ownsRow base 9 1 (.slice (some ⟨B, 0, none⟩) l.length l.length) l.length (sC l) :=
  ⟨by rw [sC_len, Nat.mul_one], .inr ⟨B, l.length, (sC l).toArray, rfl, hB, h, Nat.le_refl _, by unfold maxLen; omega, by simp [sC_len], by simp; rw [List.take_of_length_le (by rw [sC_len]; omega)]⟩⟩
theorem infoS : (Tryd.prog.info? 9).map (fun i => (i.zero, i.size, i.bytes)) = some (some (.string ⟨#[]⟩), 1, 16) := by kernel_rfl
/-- The words of a list, joined by spaces. -/
theorem join_any (l : List (List UInt8)) (v : Value) (w : World) (base : Nat) (h : w.ownsRow base 9 1 v l.length (sC l)) (h0 : 0 < l.length) (hl : l.length ≤ 1000) (hj : (join l [32]).length ≤ 100000) :
    Calls Tryd.prog 35 #[v, .string ⟨#[32]⟩] w (FwT w (bs (join l [32]))) := by
  rcases h.2 with ⟨rfl, e⟩ | ⟨g, cap, cur, rfl, hb, hh, h1, h2, h3, h4⟩
  · omega
  · have q := Tryd.strings_Join g 0 cap (l.map bs) ⟨#[32]⟩ w (fun j x hx => by
      have k := h.cellAt j (by rw [Nat.mul_one]; have := (List.getElem?_eq_some_iff.1 hx).1; simpa using this)
      rw [Nat.zero_add, k]
      unfold sC
      rw [List.getElem?_map] at hx ⊢
      cases e : l[j]? with
      | none => rw [e] at hx; cases hx
      | some y => rw [e] at hx; simp at hx ⊢; exact hx) (by
      rcases Nat.lt_or_ge g w.heap.size with k | k
      · exact k
      · rw [Array.getElem?_eq_none k] at hh; cases hh) (by simp; omega) (by simp; exact h1) (by rw [List.map_map]; rw [show ((fun x : ByteArray => x.data.toList) ∘ bs) = id from funext fun s => bs_data s, List.map_id]; show (join l [32]).length ≤ _; omega)
    rw [List.map_map, show ((fun x : ByteArray => x.data.toList) ∘ bs) = id from funext fun s => bs_data s, List.map_id, List.length_map] at q
    exact q.mono fun e w2 ⟨he, hw⟩ => ⟨he, hw⟩
/-! The text of a rule. -/
theorem cls {k : Int} (h : isK k = true) : (keyK k = true ∧ (k == 6) = false ∧ kindK k = false ∧ (k == 7) = false) ∨ (keyK k = true ∧ (k == 6) = false ∧ kindK k = true ∧ (k == 7) = false) ∨
    (keyK k = false ∧ (k == 6) = true ∧ kindK k = false ∧ (k == 7) = false) ∨ (keyK k = false ∧ (k == 6) = false ∧ kindK k = false ∧ (k == 7) = true) := by
  rcases isK_cases h with rfl | rfl | rfl | rfl | rfl | rfl | rfl <;> decide
theorem hd_len (k : Int) : (hdW k).length ≤ 11 := by
  unfold hdW
  repeat (first | (split; decide) | decide)
theorem kw_len (n : Int) : (kwW n).length ≤ 4 := by
  unfold kwW
  repeat (first | (split; decide) | decide)
theorem name_len {s : List UInt8} (h : nameV s = true) : s.length ≤ 20 := by
  unfold nameV at h
  simp only [Bool.and_eq_true, decide_eq_true_eq] at h
  exact h.1.1.2
theorem endW_len {s : List UInt8} (h : endR s = true) : (endW s).length ≤ 20 := by
  unfold endR at h
  unfold endW
  split
  · decide
  · rename_i k
    have k' : s.isEmpty = false := by simpa using k
    rw [k', Bool.false_or] at h
    exact name_len h
theorem txt_ok {r : Rl} (hr : RIn r) (h : chkR r = 0) : txtR r = join (hdW r.kd :: wrdR r) [32] ∧ (join (hdW r.kd :: wrdR r) [32]).length ≤ 100000 := by
  refine ⟨by unfold txtR; rw [if_pos h], ?_⟩
  obtain ⟨h1, -, -, h4⟩ := chk_0 h
  unfold nmsR at h4
  simp only [Bool.and_eq_true] at h4
  obtain ⟨h5, h6, h7, h8⟩ := h4
  have a := name_len h5
  have b := hd_len r.kd
  have c := kw_len r.nn
  have d := endW_len h7
  have e := endW_len h8
  have i := Lib.itoa_length_le r.nn hr.n.1 hr.n.2
  unfold wrdR
  rcases cls h1 with ⟨k1, k2, k3, -⟩ | ⟨k1, k2, k3, -⟩ | ⟨k1, k2, k3, -⟩ | ⟨k1, k2, k3, -⟩
  · have y : r.ky.length ≤ 20 := name_len (by simpa [k1] using h6)
    rw [if_pos k1, k3, if_neg Bool.false_ne_true, join2]; simp; omega
  · have y : r.ky.length ≤ 20 := name_len (by simpa [k1] using h6)
    rw [if_pos k1, if_pos k3, join3]; simp; omega
  · have k2' : r.kd = 6 := by simpa using k2
    rw [k1, if_neg Bool.false_ne_true, if_pos k2', join3]; simp; omega
  · have k2' : ¬ r.kd = 6 := by simpa using k2
    rw [k1, if_neg Bool.false_ne_true, if_neg k2', join2]; simp; omega
section
variable {P : Program} {ops : Array Oper} {Q : Exit → Act → World → Prop} (w : World)
/-- append onto a row of the call's own, as one operation of a drawn region. -/
theorem step_append_own {op : Oper} {a : Act} {K : Act → World → Prop} (hgd : op.guard = none) (s x : Operand) (t : TypeId)
    (ho : op.op = .call { callee := .builtin .append, args := #[s, x], argTypes := #[t, t] })
    (base : Nat) (e : TypeId) (i0 : TypeInfo) (z : Value) (size bytes : Nat) (ht : P.underlying t = some (.slice e)) (hi : P.info? e = some i0) (hz : i0.zero = some z)
    (hsize : i0.size = size) (hby : i0.bytes = bytes) (hzs : z.cells.size = size) (hsz : 0 < size)
    (v : Value) (n : Nat) (xs : List Value) (hs : a.eval s = v) (hown : w.ownsRow base e size v n xs)
    (ad : Addr) (m c : Nat) (news : List Value) (hx : a.eval x = .slice (some ad) m c) (hl : news.length = m * size) (hnews : ∀ j u, news[j]? = some u → w.cell? (ad.add j) = some u) (h1 : ∀ u ∈ news, u.oneCell' = true)
    (h63 : n + m ≤ maxLen) (hbytes : (n + m) * bytes ≤ 140737488355328) (hbase : base ≤ w.heap.size)
    (h : ∀ v' w', w'.ownsRow base e size v' (n + m) (xs ++ news) → w.grownBy w' v.ownBlock → (v'.ownBlock = v.ownBlock ∨ v'.ownBlock = some w.heap.size) → K (a.put op.dst v') w') :
    if Region.wanted op (yielded ops a.tmps) = true then Oper.wp P op a w K Q else K (a.put op.dst undef) w := by
  obtain ⟨v', w', hr, h2, h3, _, h5⟩ := run_append_own_at (P := P) w base t op.type e i0 z size bytes ht hi hz hsize hby hzs hsz v n xs hown ad m c news hl hnews h1 h63 hbytes hbase
  have hw : Region.wanted op (yielded ops a.tmps) = true := by simp [Region.wanted, hgd]
  rw [if_pos hw]
  unfold Oper.wp execOp
  simp only [ho, resolve, invoke, builtin, Sem.run_bind, Sem.run_pure, Result.andThen_ok, List.map_toArray, List.map_cons, List.map_nil, hs, hx, hr]
  exact h v' w' h2 h3 h5
end
set_option maxHeartbeats 6400000 in
set_option maxRecDepth 100000 in
theorem text_any (r : Rl) (hr : RIn r) (w : World) (G : Good w) : Calls Tryd.prog 10 #[rlv r] w (FwT w (bs (txtR r))) := by
  obtain ⟨W, hW⟩ : ∃ W, w.alloc (.cells #[.int .i64 r.kd, .int .i64 r.nn, .string (bs r.nm), .string (bs r.ky), .string (bs r.fr), .string (bs r.tt)] 23) = W := ⟨_, rfl⟩
  have P0 := Lib.hid (show BkR W w.heap.size r from by rw [← hW]; exact BkR.new w r)
  have F0 := Lib.hid (show Fuw w W from by rw [← hW]; exact fuwA _ _)
  have HC := Lib.hid (fun w' => chk_any r hr w')
  unfold rlv at HC ⊢
  by_cases hc : chkR r = 0
  · obtain ⟨t1, t2⟩ := txt_ok hr hc
    have HX := Lib.hid (show bs (txtR r) = bs (join (hdW r.kd :: wrdR r) [32]) by rw [t1])
    have hK := (chk_0 hc).1
    rw [hc] at HC
    clear t1 hc
    have HS := Lib.hid (fun w' => shape_any r.kd w')
    unfold RetS shp at HS
    rw [hK] at HS
    obtain ⟨iS, hiS, hS0, hS1, hS2⟩ := info_parts infoS
    have HGD := Lib.hid (fun w' (hf : Fuw w w') => G.on hf)
    have HI := Lib.hid (fun w' (hf : Fuw w w') => itoa_any r.nn hr.n w' (G.on hf))
    clear hr G
    have HWR := Lib.hid (show wrdR r = if keyK r.kd = true then (if kindK r.kd = true then [r.nm, r.ky, kwW r.nn] else [r.nm, r.ky]) else if (r.kd == 6) = true then [r.nm, endW r.fr, endW r.tt] else [r.nm, itoa r.nn] from by unfold wrdR; simp only [beq_iff_eq])
    generalize wrdR r = wr at *
    obtain hcl := cls hK
    clear hK
    generalize hdW r.kd = hw at *
    generalize keyK r.kd = b1 at *
    generalize (r.kd == 6) = b2 at *
    generalize kindK r.kd = b3 at *
    generalize (r.kd == 7) = b4 at *
    have HX2 := Lib.hid t2
    clear t2
    rcases hcl with ⟨rfl, rfl, rfl, rfl⟩ | ⟨rfl, rfl, rfl, rfl⟩ | ⟨rfl, rfl, rfl, rfl⟩ | ⟨rfl, rfl, rfl, rfl⟩
    · have HT := Lib.hid (show join (hw :: wr) [32] = join ([hw, r.nm] ++ [r.ky]) [32] ∧ (join (hw :: wr) [32]).length ≤ 100000 from ⟨by rw [HWR.out]; rfl, HX2.out⟩)
      clear HWR HX2
      go_enter Tryd.func10, Tryd.ntmps10
      go_upto_region 1 with fail
      clear hW
      have c0 := P0.out.c0; have c1 := P0.out.c1; have c2 := P0.out.c2; have c3 := P0.out.c3; have c4 := P0.out.c4; have c5 := P0.out.c5
      go_wp2_with fail
      go_at_call 8; refine (HC.out _).mono ?_; rintro e1 w1 ⟨rfl, f1⟩
      have P1 := Lib.hid (P0.out.on f1)
      have F1 := Lib.hid (F0.out.trans f1)
      clear c0 c1 c2 c3 c4 c5 f1 P0 F0
      have c0 := P1.out.c0
      go_wp2_with fail
      go_at_call 24; refine (HS.out _).mono ?_; rintro e2 w2 ⟨rfl, f2⟩
      have P2 := Lib.hid (P1.out.on f2)
      have F2 := Lib.hid (F1.out.trans f2)
      clear c0 f2 P1 F1
      go_upto_region 4 with fail
      obtain ⟨V, hV⟩ : ∃ V, w2.alloc (.cells #[.string (bs hw), .bool true, .bool false, .bool false, .bool false] 41) = V := ⟨_, rfl⟩
      have Q := Lib.hid (show Bk V w2.heap.size #[.string (bs hw), .bool true, .bool false, .bool false, .bool false] 41 from by rw [← hV]; exact Bk.new _ _ _)
      have f3 : Fuw w2 V := by rw [← hV]; exact fuwA _ _
      rw [hV]
      clear hV
      have F := Lib.hid (F2.out.trans f3)
      have P := Lib.hid (P2.out.on f3)
      clear f3 F2 P2
      have c2 := P.out.c2
      have s0 := Q.out.c 0
      go_upto_region 5 with fail
      clear c2 s0
      obtain ⟨V4, hV4⟩ : ∃ V4, V.alloc (.cells #[.string (bs hw), .string (bs r.nm)] 9) = V4 := ⟨_, rfl⟩
      have O := Lib.hid (show V4.ownsRow V.heap.size 9 1 (.slice (some ⟨V.heap.size, 0, none⟩) 2 2) 2 (sC [hw, r.nm]) from by rw [← hV4]; exact own_box (l := [hw, r.nm]) (Nat.le_refl _) (Bk.new _ _ _) (by simp))
      have GV := Lib.hid (show Fuw V V4 from by rw [← hV4]; exact fuwA _ _)
      rw [hV4]
      clear hV4
      have c0 := (P.out.on GV.out).c0; have c1 := (P.out.on GV.out).c1; have c2 := (P.out.on GV.out).c2; have c3 := (P.out.on GV.out).c3; have c4 := (P.out.on GV.out).c4; have c5 := (P.out.on GV.out).c5; have s0 := (Q.out.on GV.out).c 0; have s1 := (Q.out.on GV.out).c 1; have s2 := (Q.out.on GV.out).c 2; have s3 := (Q.out.on GV.out).c 3; have s4 := (Q.out.on GV.out).c 4
      go_upto_region 13 with (first | (at_builtin; refine wpList_append_own_at _ rfl (.tmp 22) (.tmp 25) 47 rfl V.heap.size 9 iS _ 1 16 Tryd.underlying47 hiS hS0 hS1 hS2 rfl (by decide) _ 2 (sC [hw, r.nm]) rfl (own_on O.out (fuwA _ _)) ⟨V4.heap.size, 0, none⟩ 1 1 [.string (bs r.ky)] rfl rfl (World.news_of_block (heap_alloc_new V4 _)) (oneS [r.ky]) (by unfold maxLen; omega) (by omega) (Nat.le_trans GV.out.size (fuwA _ _).size) ?_; intro v3 w3 hown3 hgrow _ _; obtain ⟨a3, k3, rfl⟩ := own_slice hown3; have O5 := Lib.hid (show w3.ownsRow V.heap.size 9 1 (.slice a3 3 k3) 3 (sC ([hw, r.nm] ++ [r.ky])) from by rw [sC_app]; exact hown3); have GO5 := Lib.hid (show Fuw V w3 from Below.grown (GV.out.trans (fuwA _ _)) hgrow (GV.out.trans (fuwA _ _)).size (fun k hk => (O.out.lt k hk).1)); clear hown3 hgrow; have c0 := (P.out.on GO5.out).c0; have c1 := (P.out.on GO5.out).c1; have c2 := (P.out.on GO5.out).c2; have c3 := (P.out.on GO5.out).c3; have c4 := (P.out.on GO5.out).c4; have c5 := (P.out.on GO5.out).c5; have s0 := (Q.out.on GO5.out).c 0; have s1 := (Q.out.on GO5.out).c 1; have s2 := (Q.out.on GO5.out).c 2; have s3 := (Q.out.on GO5.out).c 3; have s4 := (Q.out.on GO5.out).c 4))
      clear c0 c1 c2 c3 c4 c5 s0 s1 s2 s3 s4
      have HJ := Lib.hid (join_any ([hw, r.nm] ++ [r.ky]) _ _ _ O5.out (by simp) (by simp) (by rw [← HT.out.1]; exact HT.out.2))
      go_wp2_with fail
      go_at_call 35; refine HJ.out.mono ?_; rintro e8 w8 ⟨rfl, f8⟩
      have F8 := Lib.hid ((F.out.trans GO5.out).trans f8)
      clear f8
      go_wp2
      go_ret
      exact ⟨ret_str (by rw [HX.out, HT.out.1]; rfl), F8.out⟩
    · have HT := Lib.hid (show join (hw :: wr) [32] = join (([hw, r.nm] ++ [r.ky]) ++ [kwW r.nn]) [32] ∧ (join (hw :: wr) [32]).length ≤ 100000 from ⟨by rw [HWR.out]; rfl, HX2.out⟩)
      clear HWR HX2
      go_enter Tryd.func10, Tryd.ntmps10
      go_upto_region 1 with fail
      clear hW
      have c0 := P0.out.c0; have c1 := P0.out.c1; have c2 := P0.out.c2; have c3 := P0.out.c3; have c4 := P0.out.c4; have c5 := P0.out.c5
      go_wp2_with fail
      go_at_call 8; refine (HC.out _).mono ?_; rintro e1 w1 ⟨rfl, f1⟩
      have P1 := Lib.hid (P0.out.on f1)
      have F1 := Lib.hid (F0.out.trans f1)
      clear c0 c1 c2 c3 c4 c5 f1 P0 F0
      have c0 := P1.out.c0
      go_wp2_with fail
      go_at_call 24; refine (HS.out _).mono ?_; rintro e2 w2 ⟨rfl, f2⟩
      have P2 := Lib.hid (P1.out.on f2)
      have F2 := Lib.hid (F1.out.trans f2)
      clear c0 f2 P1 F1
      go_upto_region 4 with fail
      obtain ⟨V, hV⟩ : ∃ V, w2.alloc (.cells #[.string (bs hw), .bool true, .bool false, .bool true, .bool false] 41) = V := ⟨_, rfl⟩
      have Q := Lib.hid (show Bk V w2.heap.size #[.string (bs hw), .bool true, .bool false, .bool true, .bool false] 41 from by rw [← hV]; exact Bk.new _ _ _)
      have f3 : Fuw w2 V := by rw [← hV]; exact fuwA _ _
      rw [hV]
      clear hV
      have F := Lib.hid (F2.out.trans f3)
      have P := Lib.hid (P2.out.on f3)
      clear f3 F2 P2
      have c2 := P.out.c2
      have s0 := Q.out.c 0
      go_upto_region 5 with fail
      clear c2 s0
      obtain ⟨V4, hV4⟩ : ∃ V4, V.alloc (.cells #[.string (bs hw), .string (bs r.nm)] 9) = V4 := ⟨_, rfl⟩
      have O := Lib.hid (show V4.ownsRow V.heap.size 9 1 (.slice (some ⟨V.heap.size, 0, none⟩) 2 2) 2 (sC [hw, r.nm]) from by rw [← hV4]; exact own_box (l := [hw, r.nm]) (Nat.le_refl _) (Bk.new _ _ _) (by simp))
      have GV := Lib.hid (show Fuw V V4 from by rw [← hV4]; exact fuwA _ _)
      rw [hV4]
      clear hV4
      have c0 := (P.out.on GV.out).c0; have c1 := (P.out.on GV.out).c1; have c2 := (P.out.on GV.out).c2; have c3 := (P.out.on GV.out).c3; have c4 := (P.out.on GV.out).c4; have c5 := (P.out.on GV.out).c5; have s0 := (Q.out.on GV.out).c 0; have s1 := (Q.out.on GV.out).c 1; have s2 := (Q.out.on GV.out).c 2; have s3 := (Q.out.on GV.out).c 3; have s4 := (Q.out.on GV.out).c 4
      go_upto_region 13 with (first | (go_at_call 33; refine (kw_any _ _).mono ?_; rintro e9 w9 ⟨rfl, rfl⟩) | (at_builtin; refine wpList_append_own_at _ rfl (.tmp 40) (.tmp 44) 47 rfl V.heap.size 9 iS _ 1 16 Tryd.underlying47 hiS hS0 hS1 hS2 rfl (by decide) _ 3 (sC ([hw, r.nm] ++ [r.ky])) rfl (own_on O5.out (fuwA _ _)) ⟨w3.heap.size, 0, none⟩ 1 1 [.string (bs (kwW r.nn))] rfl rfl (World.news_of_block (heap_alloc_new w3 _)) (oneS [(kwW r.nn)]) (by unfold maxLen; omega) (by omega) (Nat.le_trans GO5.out.size (fuwA _ _).size) ?_; intro v3 w3 hown3 hgrow _ _; obtain ⟨a3, k3, rfl⟩ := own_slice hown3; have O6 := Lib.hid (show w3.ownsRow V.heap.size 9 1 (.slice a3 4 k3) 4 (sC (([hw, r.nm] ++ [r.ky]) ++ [(kwW r.nn)])) from by rw [sC_app]; exact hown3); have GO6 := Lib.hid (show Fuw V w3 from Below.grown (GO5.out.trans (fuwA _ _)) hgrow (GO5.out.trans (fuwA _ _)).size (fun k hk => (O5.out.lt k hk).1)); clear hown3 hgrow; have c0 := (P.out.on GO6.out).c0; have c1 := (P.out.on GO6.out).c1; have c2 := (P.out.on GO6.out).c2; have c3 := (P.out.on GO6.out).c3; have c4 := (P.out.on GO6.out).c4; have c5 := (P.out.on GO6.out).c5; have s0 := (Q.out.on GO6.out).c 0; have s1 := (Q.out.on GO6.out).c 1; have s2 := (Q.out.on GO6.out).c 2; have s3 := (Q.out.on GO6.out).c 3; have s4 := (Q.out.on GO6.out).c 4) | (at_builtin; refine wpList_append_own_at _ rfl (.tmp 22) (.tmp 25) 47 rfl V.heap.size 9 iS _ 1 16 Tryd.underlying47 hiS hS0 hS1 hS2 rfl (by decide) _ 2 (sC [hw, r.nm]) rfl (own_on O.out (fuwA _ _)) ⟨V4.heap.size, 0, none⟩ 1 1 [.string (bs r.ky)] rfl rfl (World.news_of_block (heap_alloc_new V4 _)) (oneS [r.ky]) (by unfold maxLen; omega) (by omega) (Nat.le_trans GV.out.size (fuwA _ _).size) ?_; intro v3 w3 hown3 hgrow _ _; obtain ⟨a3, k3, rfl⟩ := own_slice hown3; have O5 := Lib.hid (show w3.ownsRow V.heap.size 9 1 (.slice a3 3 k3) 3 (sC ([hw, r.nm] ++ [r.ky])) from by rw [sC_app]; exact hown3); have GO5 := Lib.hid (show Fuw V w3 from Below.grown (GV.out.trans (fuwA _ _)) hgrow (GV.out.trans (fuwA _ _)).size (fun k hk => (O.out.lt k hk).1)); clear hown3 hgrow; have c0 := (P.out.on GO5.out).c0; have c1 := (P.out.on GO5.out).c1; have c2 := (P.out.on GO5.out).c2; have c3 := (P.out.on GO5.out).c3; have c4 := (P.out.on GO5.out).c4; have c5 := (P.out.on GO5.out).c5; have s0 := (Q.out.on GO5.out).c 0; have s1 := (Q.out.on GO5.out).c 1; have s2 := (Q.out.on GO5.out).c 2; have s3 := (Q.out.on GO5.out).c 3; have s4 := (Q.out.on GO5.out).c 4))
      clear c0 c1 c2 c3 c4 c5 s0 s1 s2 s3 s4
      have HJ := Lib.hid (join_any (([hw, r.nm] ++ [r.ky]) ++ [kwW r.nn]) _ _ _ O6.out (by simp) (by simp) (by rw [← HT.out.1]; exact HT.out.2))
      go_wp2_with fail
      go_at_call 35; refine HJ.out.mono ?_; rintro e8 w8 ⟨rfl, f8⟩
      have F8 := Lib.hid ((F.out.trans GO6.out).trans f8)
      clear f8
      go_wp2
      go_ret
      exact ⟨ret_str (by rw [HX.out, HT.out.1]; rfl), F8.out⟩
    · have HT := Lib.hid (show join (hw :: wr) [32] = join ([hw, r.nm] ++ [endW r.fr, endW r.tt]) [32] ∧ (join (hw :: wr) [32]).length ≤ 100000 from ⟨by rw [HWR.out]; rfl, HX2.out⟩)
      clear HWR HX2
      go_enter Tryd.func10, Tryd.ntmps10
      go_upto_region 1 with fail
      clear hW
      have c0 := P0.out.c0; have c1 := P0.out.c1; have c2 := P0.out.c2; have c3 := P0.out.c3; have c4 := P0.out.c4; have c5 := P0.out.c5
      go_wp2_with fail
      go_at_call 8; refine (HC.out _).mono ?_; rintro e1 w1 ⟨rfl, f1⟩
      have P1 := Lib.hid (P0.out.on f1)
      have F1 := Lib.hid (F0.out.trans f1)
      clear c0 c1 c2 c3 c4 c5 f1 P0 F0
      have c0 := P1.out.c0
      go_wp2_with fail
      go_at_call 24; refine (HS.out _).mono ?_; rintro e2 w2 ⟨rfl, f2⟩
      have P2 := Lib.hid (P1.out.on f2)
      have F2 := Lib.hid (F1.out.trans f2)
      clear c0 f2 P1 F1
      go_upto_region 4 with fail
      obtain ⟨V, hV⟩ : ∃ V, w2.alloc (.cells #[.string (bs hw), .bool false, .bool true, .bool false, .bool false] 41) = V := ⟨_, rfl⟩
      have Q := Lib.hid (show Bk V w2.heap.size #[.string (bs hw), .bool false, .bool true, .bool false, .bool false] 41 from by rw [← hV]; exact Bk.new _ _ _)
      have f3 : Fuw w2 V := by rw [← hV]; exact fuwA _ _
      rw [hV]
      clear hV
      have F := Lib.hid (F2.out.trans f3)
      have P := Lib.hid (P2.out.on f3)
      clear f3 F2 P2
      have c2 := P.out.c2
      have s0 := Q.out.c 0
      go_upto_region 5 with fail
      clear c2 s0
      obtain ⟨V4, hV4⟩ : ∃ V4, V.alloc (.cells #[.string (bs hw), .string (bs r.nm)] 9) = V4 := ⟨_, rfl⟩
      have O := Lib.hid (show V4.ownsRow V.heap.size 9 1 (.slice (some ⟨V.heap.size, 0, none⟩) 2 2) 2 (sC [hw, r.nm]) from by rw [← hV4]; exact own_box (l := [hw, r.nm]) (Nat.le_refl _) (Bk.new _ _ _) (by simp))
      have GV := Lib.hid (show Fuw V V4 from by rw [← hV4]; exact fuwA _ _)
      rw [hV4]
      clear hV4
      have c0 := (P.out.on GV.out).c0; have c1 := (P.out.on GV.out).c1; have c2 := (P.out.on GV.out).c2; have c3 := (P.out.on GV.out).c3; have c4 := (P.out.on GV.out).c4; have c5 := (P.out.on GV.out).c5; have s0 := (Q.out.on GV.out).c 0; have s1 := (Q.out.on GV.out).c 1; have s2 := (Q.out.on GV.out).c 2; have s3 := (Q.out.on GV.out).c 3; have s4 := (Q.out.on GV.out).c 4
      go_upto_region 8 with fail
      have HSS := Lib.hid (fun w' (ff : Fuw V w') => (show (w'.cell? ⟨w.heap.size, 4, none⟩ = some (.string (bs r.fr)) ∧ w'.cell? ⟨w.heap.size, 5, none⟩ = some (.string (bs r.tt))) from ⟨(P.out.on ff).c4, (P.out.on ff).c5⟩))
      have ff : Fuw V V4.drew := GV.out.drew
      go_region_held3 (fun w' => (w'.cell? ⟨w.heap.size, 4, none⟩ = some (.string (bs r.fr)) ∧ w'.cell? ⟨w.heap.size, 5, none⟩ = some (.string (bs r.tt))))
        (first | (with_reducible exact HSS.out _ ff) | (with_reducible exact HSS.out _ (GV.out.trans (fuwA _ _).drew)) | (exact HSS.out _ ((GV.out.trans (fuwA _ _)).drew)) | (exact HSS.out _ (GV.out.drew.trans (fuwA _ _))))
        (first
          | (go_at_call 32; refine (endW_any _ _).mono ?_; rintro g1 v1 ⟨rfl, rfl⟩)
          | (refine step_append_own _ rfl (.tmp 29) (.tmp 36) 47 rfl V.heap.size 9 iS _ 1 16 Tryd.underlying47 hiS hS0 hS1 hS2 rfl (by decide) _ 2 (sC [hw, r.nm]) rfl (by first | exact own_on O.out ((fuwA V4 _).drew) | exact own_on O.out ((Fuw.drew (Fuw.refl V4)).trans (fuwA _ _))) ⟨V4.heap.size, 0, none⟩ 2 2 [.string (bs (endW r.fr)), .string (bs (endW r.tt))] rfl rfl (World.news_of_block (by exact heap_alloc_new V4 _)) (oneS [endW r.fr, endW r.tt]) (by unfold maxLen; omega) (by omega) (Nat.le_trans GV.out.size (by simp)) ?_; intro v3 w3 hown3 hgrow _; obtain ⟨a3, k3, rfl⟩ := own_slice hown3; have O5 := Lib.hid (show w3.ownsRow V.heap.size 9 1 (.slice a3 4 k3) 4 (sC ([hw, r.nm] ++ [endW r.fr, endW r.tt])) from by rw [sC_app]; exact hown3); have GO5 := Lib.hid (show Fuw V w3 from by first | exact Below.grown ((GV.out.trans (fuwA V4 _)).drew) hgrow ((GV.out.trans (fuwA V4 _)).drew).size (fun k hk => (O.out.lt k hk).1) | exact Below.grown (GV.out.drew.trans (fuwA V4.drew _)) hgrow (GV.out.drew.trans (fuwA V4.drew _)).size (fun k hk => (O.out.lt k hk).1)); replace ff := GO5.out; clear hown3 hgrow))
      all_goals
        rename_i hH
        clear hH c0 c1 c2 c3 c4 c5 s0 s1 s2 s3 s4 HSS ff
        have s3 := (Q.out.on GO5.out).c 3
        have s4 := (Q.out.on GO5.out).c 4
        go_upto_region 13 with fail
        clear s3 s4
        have HJ := Lib.hid (join_any ([hw, r.nm] ++ [endW r.fr, endW r.tt]) _ _ _ O5.out (by simp) (by simp) (by rw [← HT.out.1]; exact HT.out.2))
        go_wp2_with fail
        go_at_call 35; refine HJ.out.mono ?_; rintro e8 w8 ⟨rfl, f8⟩
        have F8 := Lib.hid ((F.out.trans GO5.out).trans f8)
        clear f8
        go_wp2
        go_ret
        exact ⟨ret_str (by rw [HX.out, HT.out.1]; rfl), F8.out⟩
    · have HT := Lib.hid (show join (hw :: wr) [32] = join ([hw, r.nm] ++ [itoa r.nn]) [32] ∧ (join (hw :: wr) [32]).length ≤ 100000 from ⟨by rw [HWR.out]; rfl, HX2.out⟩)
      clear HWR HX2
      go_enter Tryd.func10, Tryd.ntmps10
      go_upto_region 1 with fail
      clear hW
      have c0 := P0.out.c0; have c1 := P0.out.c1; have c2 := P0.out.c2; have c3 := P0.out.c3; have c4 := P0.out.c4; have c5 := P0.out.c5
      go_wp2_with fail
      go_at_call 8; refine (HC.out _).mono ?_; rintro e1 w1 ⟨rfl, f1⟩
      have P1 := Lib.hid (P0.out.on f1)
      have F1 := Lib.hid (F0.out.trans f1)
      clear c0 c1 c2 c3 c4 c5 f1 P0 F0
      have c0 := P1.out.c0
      go_wp2_with fail
      go_at_call 24; refine (HS.out _).mono ?_; rintro e2 w2 ⟨rfl, f2⟩
      have P2 := Lib.hid (P1.out.on f2)
      have F2 := Lib.hid (F1.out.trans f2)
      clear c0 f2 P1 F1
      go_upto_region 4 with fail
      obtain ⟨V, hV⟩ : ∃ V, w2.alloc (.cells #[.string (bs hw), .bool false, .bool false, .bool false, .bool true] 41) = V := ⟨_, rfl⟩
      have Q := Lib.hid (show Bk V w2.heap.size #[.string (bs hw), .bool false, .bool false, .bool false, .bool true] 41 from by rw [← hV]; exact Bk.new _ _ _)
      have f3 : Fuw w2 V := by rw [← hV]; exact fuwA _ _
      rw [hV]
      clear hV
      have F := Lib.hid (F2.out.trans f3)
      have P := Lib.hid (P2.out.on f3)
      clear f3 F2 P2
      have c2 := P.out.c2
      have s0 := Q.out.c 0
      go_upto_region 5 with fail
      clear c2 s0
      obtain ⟨V4, hV4⟩ : ∃ V4, V.alloc (.cells #[.string (bs hw), .string (bs r.nm)] 9) = V4 := ⟨_, rfl⟩
      have O := Lib.hid (show V4.ownsRow V.heap.size 9 1 (.slice (some ⟨V.heap.size, 0, none⟩) 2 2) 2 (sC [hw, r.nm]) from by rw [← hV4]; exact own_box (l := [hw, r.nm]) (Nat.le_refl _) (Bk.new _ _ _) (by simp))
      have GV := Lib.hid (show Fuw V V4 from by rw [← hV4]; exact fuwA _ _)
      rw [hV4]
      clear hV4
      have c0 := (P.out.on GV.out).c0; have c1 := (P.out.on GV.out).c1; have c2 := (P.out.on GV.out).c2; have c3 := (P.out.on GV.out).c3; have c4 := (P.out.on GV.out).c4; have c5 := (P.out.on GV.out).c5; have s0 := (Q.out.on GV.out).c 0; have s1 := (Q.out.on GV.out).c 1; have s2 := (Q.out.on GV.out).c 2; have s3 := (Q.out.on GV.out).c 3; have s4 := (Q.out.on GV.out).c 4
      go_wp2_with fail
      go_at_call 34; refine (HI.out _ (F.out.trans GV.out)).mono ?_; rintro e9 w9 ⟨rfl, f9⟩
      have O9 := Lib.hid (own_on O.out f9)
      have GV9 := Lib.hid (GV.out.trans f9)
      clear c0 c1 c2 c3 c4 c5 s0 s1 s2 s3 s4 f9
      have c0 := (P.out.on GV9.out).c0; have c1 := (P.out.on GV9.out).c1; have c2 := (P.out.on GV9.out).c2; have c3 := (P.out.on GV9.out).c3; have c4 := (P.out.on GV9.out).c4; have c5 := (P.out.on GV9.out).c5; have s0 := (Q.out.on GV9.out).c 0; have s1 := (Q.out.on GV9.out).c 1; have s2 := (Q.out.on GV9.out).c 2; have s3 := (Q.out.on GV9.out).c 3; have s4 := (Q.out.on GV9.out).c 4
      go_upto_region 13 with (first | (at_builtin; refine wpList_append_own_at _ rfl (.tmp 48) (.tmp 52) 47 rfl V.heap.size 9 iS _ 1 16 Tryd.underlying47 hiS hS0 hS1 hS2 rfl (by decide) _ 2 (sC [hw, r.nm]) rfl (own_on O9.out (fuwA _ _)) ⟨w9.heap.size, 0, none⟩ 1 1 [.string (bs (itoa r.nn))] rfl rfl (World.news_of_block (heap_alloc_new w9 _)) (oneS [(itoa r.nn)]) (by unfold maxLen; omega) (by omega) (Nat.le_trans GV9.out.size (fuwA _ _).size) ?_; intro v3 w3 hown3 hgrow _ _; obtain ⟨a3, k3, rfl⟩ := own_slice hown3; have O5 := Lib.hid (show w3.ownsRow V.heap.size 9 1 (.slice a3 3 k3) 3 (sC ([hw, r.nm] ++ [(itoa r.nn)])) from by rw [sC_app]; exact hown3); have GO5 := Lib.hid (show Fuw V w3 from Below.grown (GV9.out.trans (fuwA _ _)) hgrow (GV9.out.trans (fuwA _ _)).size (fun k hk => (O9.out.lt k hk).1)); clear hown3 hgrow; have c0 := (P.out.on GO5.out).c0; have c1 := (P.out.on GO5.out).c1; have c2 := (P.out.on GO5.out).c2; have c3 := (P.out.on GO5.out).c3; have c4 := (P.out.on GO5.out).c4; have c5 := (P.out.on GO5.out).c5; have s0 := (Q.out.on GO5.out).c 0; have s1 := (Q.out.on GO5.out).c 1; have s2 := (Q.out.on GO5.out).c 2; have s3 := (Q.out.on GO5.out).c 3; have s4 := (Q.out.on GO5.out).c 4))
      clear c0 c1 c2 c3 c4 c5 s0 s1 s2 s3 s4
      have HJ := Lib.hid (join_any ([hw, r.nm] ++ [itoa r.nn]) _ _ _ O5.out (by simp) (by simp) (by rw [← HT.out.1]; exact HT.out.2))
      go_wp2_with fail
      go_at_call 35; refine HJ.out.mono ?_; rintro e8 w8 ⟨rfl, f8⟩
      have F8 := Lib.hid ((F.out.trans GO5.out).trans f8)
      clear f8
      go_wp2
      go_ret
      exact ⟨ret_str (by rw [HX.out, HT.out.1]; rfl), F8.out⟩
  · have HE := Lib.hid (show txtR r = [] by unfold txtR; rw [if_neg hc])
    have hc' : (chkR r != 0) = true := by simpa using hc
    generalize chkR r = c at *
    clear hc G hr
    go_enter Tryd.func10, Tryd.ntmps10
    go_upto_region 1 with fail
    clear hW
    have c0 := P0.out.c0; have c1 := P0.out.c1; have c2 := P0.out.c2; have c3 := P0.out.c3; have c4 := P0.out.c4; have c5 := P0.out.c5
    go_wp2_with fail
    go_at_call 8; refine (HC.out _).mono ?_; rintro e1 w1 ⟨rfl, f1⟩
    have P1 := Lib.hid (P0.out.on f1)
    have F1 := Lib.hid (F0.out.trans f1)
    clear c0 c1 c2 c3 c4 c5 f1 P0 F0
    go_wp2
    go_ret
    exact ⟨ret_str (by rw [HE.out]; rfl), F1.out⟩
end Go.Proofs.YtadnaakbhgacgaaDoor
