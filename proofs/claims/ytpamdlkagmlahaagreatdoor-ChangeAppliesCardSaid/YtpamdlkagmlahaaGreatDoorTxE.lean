import Derived.Test.YtpamdlkagmlahaaGreatDoorK23
import Derived.Test.YtpamdlkagmlahaaGreatDoorK24
import Derived.Maps.AppendAt
namespace Go.Proofs.YtpamdlkagmlahaaGreatDoor
open Go.RowKit
def wordsC (c : Ch) : List (List UInt8) := [wrdC c.op, Lib.itoa c.id] ++ (if c.op = 6 then [Lib.itoa c.fr, Lib.itoa c.tt] else []) ++ (if nmd c.op = true then [c.nm] else []) ++ (if vld c.op = true then [texX c.v] else [])
theorem itoa_w (n : Int) (h : I64 n) (w : World) (G : Good w) : Calls Tryz.prog 44 #[.int .i64 n] w (RwT w (Lib.itoa n)) := by
 refine (Tryz.strconv_Itoa n h.1 h.2 _ G.tab).mono ?_
 rintro e w' ⟨rfl, k, os, rfl⟩
 exact ⟨rfl, (fur_grow0 _ _ _).b⟩
section
variable {P : Program} {ops : Array Oper} {w : World} {Q : Exit → Act → World → Prop}
theorem step_append_own {op : Oper} {a : Act} {K : Act → World → Prop} (hgd : op.guard = none) (s x : Operand) (t : TypeId)
  (ho : op.op = .call { callee := .builtin .append, args := #[s, x], argTypes := #[t, t] })
  (base : Nat) (e : TypeId) (i0 : TypeInfo) (z : Value) (size bytes : Nat) (ht : P.underlying t = some (.slice e)) (hi : P.info? e = some i0) (hz : i0.zero = some z)
  (hsize : i0.size = size) (hby : i0.bytes = bytes) (hzs : z.cells.size = size) (hsz : 0 < size)
  (v : Value) (n : Nat) (xs : List Value) (hs : a.eval s = v) (hown : w.ownsRow base e size v n xs)
  (ad : Addr) (m c : Nat) (news : List Value) (hx : a.eval x = .slice (some ad) m c) (hl : news.length = m * size) (hnews : ∀ j u, news[j]? = some u → w.cell? (ad.add j) = some u) (h1 : ∀ u ∈ news, u.oneCell' = true)
  (h63 : n + m ≤ maxLen) (hbytes : (n + m) * bytes ≤ 140737488355328) (hbase : base ≤ w.heap.size)
  (h : ∀ v' w', w'.ownsRow base e size v' (n + m) (xs ++ news) → w.grownBy w' v.ownBlock → (v'.ownBlock = v.ownBlock ∨ v'.ownBlock = some w.heap.size) → K (a.put op.dst v') w') :
  if Region.wanted op (yielded ops a.tmps) = true then Oper.wp P op a w K Q else K (a.put op.dst undef) w := by
 obtain ⟨v', w', hr, h2, h3, _, h5⟩ := run_append_own_at (P := P) w base t op.type e i0 z size bytes ht hi hz hsize hby hzs hsz v n xs hown ad m c news hl hnews h1 h63 hbytes hbase
 have hw : Region.wanted op (yielded ops a.tmps) = true := by simp [Region.wanted, hgd]
 rw [if_pos hw]
 unfold Oper.wp execOp
 simp only [ho, resolve, invoke, builtin, Sem.run_bind, Sem.run_pure, Result.andThen_ok, List.map_toArray, List.map_cons, List.map_nil, hs, hx, hr]
 exact h v' w' h2 h3 h5
end
abbrev OwnS (w : World) (base : Nat) (v : Value) (l : List (List UInt8)) : Prop := w.ownsRow base 9 1 v l.length (sC l)
theorem ownS_app {w : World} {base : Nat} {v : Value} {l m : List (List UInt8)} (h : w.ownsRow base 9 1 v (l.length + m.length) (sC l ++ sC m)) : OwnS w base v (l ++ m) := by
 unfold OwnS
 rw [sC_app, List.length_append]
 exact h
theorem news_S {w : World} {B : Nat} {l : List (List UInt8)} {t : TypeId} (h : Bk w B (sC l).toArray t) : ∀ j u, (sC l)[j]? = some u → w.cell? ((⟨B, 0, none⟩ : Addr).add j) = some u := by
 intro j u hj
 rw [Addr.add_lit, Nat.zero_add, h.c j]
 simpa using hj
theorem one_S (l : List (List UInt8)) : ∀ u ∈ sC l, u.oneCell' = true := by
 intro u hu
 unfold sC at hu
 obtain ⟨s, -, rfl⟩ := List.mem_map.1 hu
 rfl
set_option maxHeartbeats 12800000 in
set_option maxRecDepth 100000 in
theorem textc_raw (c : Ch) (a : Option Addr) (k : Nat) (w : World) (h : ChIn w c a k) (G : Good w) (hok : chkC c = 0) (hlen : (Lib.join (wordsC c) [32]).length ≤ 1000000) (hTX : vld c.op = true → ∀ w', Fuw w w' → Good w' → Calls Tryz.prog 45 #[vlv c.v a k] w' (RwT w' (texX c.v))) : Calls Tryz.prog 18 #[.agg (chC c a k)] w (RwT w (Lib.join (wordsC c) [32])) := by
 obtain ⟨i0, hi0, hz0, hz1, hz2⟩ := info_parts infoS
 have hfl : (c.op = 6 → nmd c.op = true ∧ vld c.op = false) ∧ (vld c.op = true → nmd c.op = true) := by
  constructor
  ·intro e; rw [e]; exact ⟨rfl, rfl⟩
  ·intro e; unfold vld at e; unfold nmd; simp at e ⊢; omega
 obtain ⟨W, hW⟩ : ∃ W, W = w.alloc (.cells (chC c a k) 30) := ⟨_, rfl⟩
 have fW : Fuw w W := by rw [hW]; exact fuwA _ _
 have bW : Bk W w.heap.size (chC c a k) 30 := by rw [hW]; exact Bk.new _ _ _
 have HCK := Lib.hid (show Calls Tryz.prog 9 #[.agg (chC c a k)] W (FwI W 0) from by rw [← hok]; exact lchk_any c a k W (h.on fW))
 have HSH := Lib.hid (shape_any c.op)
 have HI1 := Lib.hid (fun (w' : World) (G : Good w') => itoa_w c.id h.i w' G)
 have HI2 := Lib.hid (fun (w' : World) (G : Good w') => itoa_w c.fr h.f w' G)
 have HI3 := Lib.hid (fun (w' : World) (G : Good w') => itoa_w c.tt h.t w' G)
 have HTX := Lib.hid hTX
 clear hTX
 have HG := Lib.hid G
 obtain ⟨T, hT⟩ : ∃ T, T = Lib.join (wordsC c) [32] := ⟨_, rfl⟩
 rw [← hT] at hlen ⊢
 have HFW := Lib.hid fW
 have HBW := Lib.hid bW
 unfold RetSh shpC at HSH
 unfold vlv at HTX
 unfold wordsC at hT
 obtain ⟨ue, hue⟩ : ∃ ue, ue = decide (c.op = 6) := ⟨_, rfl⟩
 have hT2 : T = Lib.join ([wrdC c.op, Lib.itoa c.id] ++ (if ue = true then [Lib.itoa c.fr, Lib.itoa c.tt] else []) ++ (if nmd c.op = true then [c.nm] else []) ++ (if vld c.op = true then [texX c.v] else [])) [32] := by
  rw [hT, hue]
  by_cases q : c.op = 6
  ·simp [q]
  ·simp [q]
 have hfl2 : (ue = true → nmd c.op = true ∧ vld c.op = false) ∧ (vld c.op = true → nmd c.op = true) := ⟨fun e => hfl.1 (by rw [hue] at e; simpa using e), hfl.2⟩
 rw [← hue] at HSH
 have HNL := Lib.hid h.n
 clear hue hT hfl
 generalize nmd c.op = n at *
 generalize vld c.op = v at *
 generalize wrdC c.op = s at *
 generalize opV c.op = ov at *
 generalize Lib.itoa c.id = t1 at *
 generalize Lib.itoa c.fr = t2 at *
 generalize Lib.itoa c.tt = t3 at *
 generalize texX c.v = t4 at *
 have HT := Lib.hid hT2
 have HFL := Lib.hid hfl2
 have HLN := Lib.hid hlen
 unfold chC at *
 have d0 := bW.c 0; have d1 := bW.c 1; have d2 := bW.c 2; have d3 := bW.c 3; have d4 := bW.c 4; have d5 := bW.c 5; have d6 := bW.c 6; have d7 := bW.c 7; have d8 := bW.c 8; have d9 := bW.c 9
 clear h G hok fW bW hT2 hfl2 hlen
 go_enter Tryz.func18, Tryz.ntmps18
 go_upto_region 1 with fail
 rw [← hW]
 clear hW
 go_wp2_with fail
 go_at_call 9; refine HCK.out.mono ?_; rintro e1 w1 ⟨rfl, f1⟩
 have HF1 := Lib.hid (HFW.out.trans f1)
 have HB1 := Lib.hid (HBW.out.on f1)
 clear d0 d1 d2 d3 d4 d5 d6 d7 d8 d9 f1 HFW HBW HCK
 have d0 := HB1.out.c 0
 go_wp2_with fail
 go_at_call 22; refine (HSH.out _).mono ?_; rintro e2 w2 ⟨rfl, f2⟩
 obtain ⟨V, hV⟩ : ∃ V, V = w2.alloc (.cells #[.string (bs s), .bool ue, .bool n, .bool v] 59) := ⟨_, rfl⟩
 have fV : Fuw w2 V := by rw [hV]; exact fuwA _ _
 have HFV := Lib.hid ((HF1.out.trans f2).trans fV)
 have HBV := Lib.hid ((HB1.out.on f2).on fV)
 have HSV := Lib.hid (show Bk V w2.heap.size #[.string (bs s), .bool ue, .bool n, .bool v] 59 from by rw [hV]; exact Bk.new _ _ _)
 clear f2 fV d0 HSH HF1 HB1
 have x0 := HSV.out.c 0
 have x1 := HBV.out.c 1
 go_upto_region 4 with fail
 rw [← hV]
 clear hV
 obtain ⟨S, hS⟩ : ∃ S : World → Prop, S = (fun w8 => w8.cell? ⟨w2.heap.size, 0, none⟩ = some (.string (bs s)) ∧ w8.cell? ⟨w.heap.size, 1, none⟩ = some (.int .i64 c.id)) := ⟨_, rfl⟩
 have HS := Lib.hid hS
 clear hS
 refine lst_start [5] S (by kernel_rfl) ?_
 have hS0 : S V.drew := by rw [HS.out]; exact ⟨x0, x1⟩
 refine takeP (i := 0) (d := some 15) (v := ?_) rfl rfl (by kernel_rfl) (by kernel_rfl) (by kernel_rfl) (by kernel_rfl) (by kernel_rfl) (fun _ _ _ h => h) (Or.inl ⟨by rfl, ?_⟩) (by first | exact Or.inr (by assumption) | exact Or.inl (by kernel_rfl)) ?_
 rotate_left
 ·((intro w8 _; go_simp); try with_reducible rfl)
 try simp only [Act.put, List.setIfInBounds_toArray, List.set_cons_succ, List.set_cons_zero]
 refine takeL (i := 1) (d := some 16) (v := ?_) rfl rfl (by kernel_rfl) (by kernel_rfl) (by kernel_rfl) (by kernel_rfl) (by kernel_rfl) (fun _ _ _ h => h) (Or.inl ⟨by rfl, ?_⟩) (by assumption) ?_
 rotate_left
 ·((intro w8 hSw; rw [HS.out] at hSw; obtain ⟨s0, s1⟩ := hSw; go_simp); try with_reducible rfl)
 try simp only [Act.put, List.setIfInBounds_toArray, List.set_cons_succ, List.set_cons_zero]
 refine takeP (i := 2) (d := some 17) (v := ?_) rfl rfl (by kernel_rfl) (by kernel_rfl) (by kernel_rfl) (by kernel_rfl) (by kernel_rfl) (fun _ _ _ h => h) (Or.inl ⟨by rfl, ?_⟩) (by first | exact Or.inr (by assumption) | exact Or.inl (by kernel_rfl)) ?_
 rotate_left
 ·((intro w8 _; go_simp); try with_reducible rfl)
 try simp only [Act.put, List.setIfInBounds_toArray, List.set_cons_succ, List.set_cons_zero]
 refine takeL (i := 3) (d := some 18) (v := ?_) rfl rfl (by kernel_rfl) (by kernel_rfl) (by kernel_rfl) (by kernel_rfl) (by kernel_rfl) (fun _ _ _ h => h) (Or.inl ⟨by rfl, ?_⟩) (by assumption) ?_
 rotate_left
 ·((intro w8 hSw; rw [HS.out] at hSw; obtain ⟨s0, s1⟩ := hSw; go_simp); try with_reducible rfl)
 try simp only [Act.put, List.setIfInBounds_toArray, List.set_cons_succ, List.set_cons_zero]
 refine oneL (i := 4) rfl (by kernel_rfl) (fun K8 hK8 => ?_)
 go_simp
 go_at_call 44; refine (HI1.out _ (HG.out.onw (HFV.out.trans (Fuw.drew (Fuw.refl V))))).mono ?_; rintro e3 w3 ⟨rfl, f3⟩
 have fV3 : Fuw V w3 := (Fuw.drew (Fuw.refl V)).trans f3
 have hS1 : S w3 := by rw [HS.out]; exact ⟨cellOnw fV3 x0, cellOnw fV3 x1⟩
 refine hK8 _ _ hS1 ?_
 try simp only [Act.put, List.setIfInBounds_toArray, List.set_cons_succ, List.set_cons_zero]
 refine outL (i := 5) rfl (by kernel_rfl) (by kernel_rfl) (fun K8 hK8 => ?_)
 go_simp
 refine hK8 _ _ ?_
 try simp only [Act.put, List.setIfInBounds_toArray, List.set_cons_succ, List.set_cons_zero]
 refine takeP (i := 6) (d := some 5) (v := ?_) rfl rfl (by kernel_rfl) (by kernel_rfl) (by kernel_rfl) (by kernel_rfl) (by kernel_rfl) (fun _ _ _ h => h) (Or.inl ⟨by rfl, ?_⟩) (by first | exact Or.inr (by assumption) | exact Or.inl (by kernel_rfl)) ?_
 rotate_left
 ·((intro w8 _; go_simp); try with_reducible rfl)
 try simp only [Act.put, List.setIfInBounds_toArray, List.set_cons_succ, List.set_cons_zero]
 refine lst_done (by kernel_rfl) ?_ _
 obtain ⟨Z0, hX⟩ : ∃ Z0, Z0 = w3.alloc (.cells #[.string (bs s), .string (bs t1)] 9) := ⟨_, rfl⟩
 have fX : Fuw w3 Z0 := by rw [hX]; exact fuwA _ _
 have HFZ0 := Lib.hid (HFV.out.trans (fV3.trans fX))
 have HBZ0 := Lib.hid (HBV.out.on (fV3.trans fX))
 have HSZ0 := Lib.hid (HSV.out.on (fV3.trans fX))
 have HWX := Lib.hid (show OwnS Z0 w3.heap.size (.slice (some ⟨w3.heap.size, 0, none⟩) 2 2) [s, t1] from by
  rw [hX]
  exact World.ownsRow_lit (e := 9) (size := 1) w3 #[.string (bs s), .string (bs t1)] 2 (Nat.le_refl _) (by unfold maxLen; decide) rfl)
 have HDZ0 := Lib.hid (show w.heap.size < w3.heap.size ∧ w2.heap.size < w3.heap.size ∧ w3.heap.size ≤ Z0.heap.size from ⟨Nat.lt_of_lt_of_le HBV.out.lt fV3.size, Nat.lt_of_lt_of_le HSV.out.lt fV3.size, fX.size⟩)
 clear hS0 hS1 HS x0 x1 f3 fX fV3 HFV HBV HSV HI1
 go_upto_region 5 with fail
 (try rw [← hX])
 clear hX
 have hrow : OwnS Z0 w3.heap.size (.slice (some ⟨w3.heap.size, 0, none⟩) 2 2) [s, t1] := HWX.out
 clear HWX
 generalize (Value.slice (some ⟨w3.heap.size, 0, none⟩) 2 2) = wv0 at *
 obtain ⟨ws0, hws⟩ : ∃ ws : List (List UInt8), ws = [s, t1] := ⟨_, rfl⟩
 have HW0 := Lib.hid (show 2 ≤ ws0.length ∧ ws0.length ≤ 2 from by rw [hws]; simp)
 have HT0 := Lib.hid (show T = Lib.join (ws0 ++ (if ue = true then [t2, t3] else []) ++ (if n = true then [c.nm] else []) ++ (if v = true then [t4] else [])) [32] from by rw [HT.out, hws])
 rw [← hws] at hrow
 have HWZ0 := Lib.hid hrow
 clear hrow hws HT
 cases ue with
 | false =>
  have HTe := Lib.hid (show T = Lib.join (ws0 ++ (if n = true then [c.nm] else []) ++ (if v = true then [t4] else [])) [32] from by rw [HT0.out]; simp)
  have s1 := HSZ0.out.c 1; have s2 := HSZ0.out.c 2; have s3 := HSZ0.out.c 3; have x4 := HBZ0.out.c 4
  cases n with
  | false =>
   have hv : v = false := by cases v with | false => rfl | true => exact absurd (HFL.out.2 rfl) (by decide)
   subst hv
   have HTZ0 := Lib.hid (show T = Lib.join (ws0 ++ []) [32] from by rw [HTe.out]; simp)
   obtain ⟨gq, cq, ewv, hgq⟩ : ∃ gq cq, wv0 = .slice (some ⟨gq, 0, none⟩) ws0.length cq ∧ (gq < Z0.heap.size ∧ ws0.length ≤ cq) := by
    rcases HWZ0.out.2 with ⟨q, h0⟩ | ⟨gq, cq, cur, q, hb, hh, h1, -⟩
    ·exact absurd h0 (by have := HW0.out; omega)
    ·exact ⟨gq, cq, q, (Array.getElem?_eq_some_iff.1 hh).1, h1⟩
   subst ewv
   have HTE := Lib.hid (show T = Lib.join ws0 [32] from by have q := HTZ0.out; rw [List.append_nil] at q; exact q)
   have HJ := Lib.hid (ljoin_any ws0 [32] gq cq Z0 (by have := HW0.out; omega) hgq.2 hgq.1 (fun j x hx => by
    have q := World.ownsRow.cells HWZ0.out rfl j (.string (bs x)) (by unfold sC; rw [List.getElem?_map, hx]; rfl)
    rwa [Addr.add_lit, Nat.zero_add] at q) (by rw [← HTE.out]; exact HLN.out))
   have HJ2 := Lib.hid (show Calls Tryz.prog 46 #[.slice (some ⟨gq, 0, none⟩) ws0.length cq, .string ⟨#[32]⟩] Z0 (RwT Z0 (Lib.join ws0 [32])) from HJ.out)
   clear hgq HJ
   go_wp2_with fail
   go_at_call 46; refine HJ2.out.mono ?_; rintro e9 w9 ⟨rfl, f9⟩
   have HF9 := Lib.hid (HFZ0.out.trans f9)
   clear f9
   go_wp2
   go_ret
   exact ⟨by rw [HTE.out]; rfl, HF9.out⟩
  | true =>
   have HTZ0 := Lib.hid (show T = Lib.join (ws0 ++ ([c.nm] ++ (if v = true then [t4] else []))) [32] from by rw [HTe.out]; simp)
   have fA := fuwA Z0 (.cells #[.string (bs c.nm)] 9)
   have HO := Lib.hid (own_on HWZ0.out fA)
   have HN := Lib.hid (news_S (l := [c.nm]) (Bk.new Z0 #[.string (bs c.nm)] 9))
   have HA := Lib.hid (HFZ0.out.trans fA)
   have HU := Lib.hid (HSZ0.out.on fA)
   have HV := Lib.hid (HBZ0.out.on fA)
   have HDA := Lib.hid (Nat.le_trans HDZ0.out.2.2 fA.size)
   have hw5 := HW0.out
   clear fA
   go_wp2_with (at_builtin; refine wpList_append_own _ rfl (.tmp 34) (.tmp 37) 46 rfl w3.heap.size 9 i0 _ 1 16 Tryz.underlying46 hi0 hz0 hz1 hz2 rfl (by decide) wv0 ws0.length (sC ws0) rfl HO.out ⟨Z0.heap.size, 0, none⟩ 1 1 (sC [c.nm]) rfl rfl HN.out (one_S _) (by unfold maxLen; omega) (by omega) HDA.out ?_)
   intro wv1 Z1 hown hgrow hnl
   have hlt := fun q (hq : wv0.ownBlock = some q) => (World.ownsRow.lt HO.out q hq).1
   have hd := HDZ0.out
   have hrow : OwnS Z1 w3.heap.size wv1 (ws0 ++ [c.nm]) := ownS_app (m := [c.nm]) hown
   have HFZ1 := Lib.hid (show Fuw w Z1 from Below.grown HA.out hgrow HA.out.size (fun q hq => by have := hlt q hq; omega))
   have HBZ1 := Lib.hid (HV.out.grow hgrow (fun e => by have := hlt _ e.symm; omega))
   have HSZ1 := Lib.hid (HU.out.grow hgrow (fun e => by have := hlt _ e.symm; omega))
   have HDZ1 := Lib.hid (show w.heap.size < w3.heap.size ∧ w2.heap.size < w3.heap.size ∧ w3.heap.size ≤ Z1.heap.size from ⟨hd.1, hd.2.1, Nat.le_trans HDA.out hgrow.size⟩)
   obtain ⟨ws1, hws2⟩ : ∃ q9 : List (List UInt8), q9 = ws0 ++ [c.nm] := ⟨_, rfl⟩
   have HW1 := Lib.hid (show 2 ≤ ws1.length ∧ ws1.length ≤ 3 from by rw [hws2, List.length_append, List.length_singleton]; omega)
   have HTZ1 := Lib.hid (show T = Lib.join (ws1 ++ (if v = true then [t4] else [])) [32] from by rw [HTZ0.out, hws2]; simp)
   rw [← hws2] at hrow
   have HWZ1 := Lib.hid hrow
   clear hown hgrow hnl hlt hd hws2 hrow hw5 HO HN HA HU HV HDA
   have s3 := HSZ1.out.c 3; have y5 := HBZ1.out.c 5; have y6 := HBZ1.out.c 6; have y7 := HBZ1.out.c 7; have y8 := HBZ1.out.c 8; have y9 := HBZ1.out.c 9
   cases v with
   | false =>
    have HTZ1 := Lib.hid (show T = Lib.join (ws1 ++ []) [32] from by rw [HTZ1.out]; simp)
    obtain ⟨gq, cq, ewv, hgq⟩ : ∃ gq cq, wv1 = .slice (some ⟨gq, 0, none⟩) ws1.length cq ∧ (gq < Z1.heap.size ∧ ws1.length ≤ cq) := by
     rcases HWZ1.out.2 with ⟨q, h0⟩ | ⟨gq, cq, cur, q, hb, hh, h1, -⟩
     ·exact absurd h0 (by have := HW1.out; omega)
     ·exact ⟨gq, cq, q, (Array.getElem?_eq_some_iff.1 hh).1, h1⟩
    subst ewv
    have HTE := Lib.hid (show T = Lib.join ws1 [32] from by have q := HTZ1.out; rw [List.append_nil] at q; exact q)
    have HJ := Lib.hid (ljoin_any ws1 [32] gq cq Z1 (by have := HW1.out; omega) hgq.2 hgq.1 (fun j x hx => by
     have q := World.ownsRow.cells HWZ1.out rfl j (.string (bs x)) (by unfold sC; rw [List.getElem?_map, hx]; rfl)
     rwa [Addr.add_lit, Nat.zero_add] at q) (by rw [← HTE.out]; exact HLN.out))
    have HJ2 := Lib.hid (show Calls Tryz.prog 46 #[.slice (some ⟨gq, 0, none⟩) ws1.length cq, .string ⟨#[32]⟩] Z1 (RwT Z1 (Lib.join ws1 [32])) from HJ.out)
    clear hgq HJ
    go_wp2_with fail
    go_at_call 46; refine HJ2.out.mono ?_; rintro e9 w9 ⟨rfl, f9⟩
    have HF9 := Lib.hid (HFZ1.out.trans f9)
    clear f9
    go_wp2
    go_ret
    exact ⟨by rw [HTE.out]; rfl, HF9.out⟩
   | true =>
    have HTZ1' := Lib.hid (show T = Lib.join (ws1 ++ [t4]) [32] from by rw [HTZ1.out]; simp)
    go_wp2_with fail
    go_at_call 45; refine (HTX.out (by trivial) _ HFZ1.out (HG.out.onw HFZ1.out)).mono ?_; rintro e5 Z2 ⟨rfl, f5⟩
    have HFZ2 := Lib.hid (HFZ1.out.trans f5)
    have HBZ2 := Lib.hid (HBZ1.out.on f5)
    have HSZ2 := Lib.hid (HSZ1.out.on f5)
    have HWZ2 := Lib.hid (own_on HWZ1.out f5)
    have HDZ2 := Lib.hid (show w.heap.size < w3.heap.size ∧ w2.heap.size < w3.heap.size ∧ w3.heap.size ≤ Z2.heap.size from ⟨HDZ1.out.1, HDZ1.out.2.1, Nat.le_trans HDZ1.out.2.2 f5.size⟩)
    obtain ⟨wv2, hwv2⟩ : ∃ q, q = wv1 := ⟨_, rfl⟩
    obtain ⟨ws2, hws2⟩ : ∃ q, q = ws1 := ⟨_, rfl⟩
    have HW2 := Lib.hid (show 2 ≤ ws2.length ∧ ws2.length ≤ 3 from by rw [hws2]; exact HW1.out)
    have HTZ2 := Lib.hid (show T = Lib.join (ws2 ++ [t4]) [32] from by rw [hws2]; exact HTZ1'.out)
    subst hwv2
    subst hws2
    clear f5 s3 y5 y6 y7 y8 y9
    have fA := fuwA Z2 (.cells #[.string (bs t4)] 9)
    have HO := Lib.hid (own_on HWZ2.out fA)
    have HN := Lib.hid (news_S (l := [t4]) (Bk.new Z2 #[.string (bs t4)] 9))
    have HA := Lib.hid (HFZ2.out.trans fA)
    have HU := Lib.hid (HSZ2.out.on fA)
    have HV := Lib.hid (HBZ2.out.on fA)
    have HDA := Lib.hid (Nat.le_trans HDZ2.out.2.2 fA.size)
    have hw5 := HW2.out
    clear fA
    go_wp2_with (at_builtin; refine wpList_append_own _ rfl (.tmp 41) (.tmp 45) 46 rfl w3.heap.size 9 i0 _ 1 16 Tryz.underlying46 hi0 hz0 hz1 hz2 rfl (by decide) wv2 ws2.length (sC ws2) rfl HO.out ⟨Z2.heap.size, 0, none⟩ 1 1 (sC [t4]) rfl rfl HN.out (one_S _) (by unfold maxLen; omega) (by omega) HDA.out ?_)
    intro wv3 Z3 hown hgrow hnl
    have hlt := fun q (hq : wv2.ownBlock = some q) => (World.ownsRow.lt HO.out q hq).1
    have hd := HDZ2.out
    have hrow : OwnS Z3 w3.heap.size wv3 (ws2 ++ [t4]) := ownS_app (m := [t4]) hown
    have HFZ3 := Lib.hid (show Fuw w Z3 from Below.grown HA.out hgrow HA.out.size (fun q hq => by have := hlt q hq; omega))
    have HBZ3 := Lib.hid (HV.out.grow hgrow (fun e => by have := hlt _ e.symm; omega))
    have HSZ3 := Lib.hid (HU.out.grow hgrow (fun e => by have := hlt _ e.symm; omega))
    have HDZ3 := Lib.hid (show w.heap.size < w3.heap.size ∧ w2.heap.size < w3.heap.size ∧ w3.heap.size ≤ Z3.heap.size from ⟨hd.1, hd.2.1, Nat.le_trans HDA.out hgrow.size⟩)
    obtain ⟨ws3, hws2⟩ : ∃ q9 : List (List UInt8), q9 = ws2 ++ [t4] := ⟨_, rfl⟩
    have HW3 := Lib.hid (show 2 ≤ ws3.length ∧ ws3.length ≤ 4 from by rw [hws2, List.length_append, List.length_singleton]; omega)
    have HTZ3 := Lib.hid (show T = Lib.join (ws3 ++ []) [32] from by rw [HTZ2.out, hws2]; simp)
    rw [← hws2] at hrow
    have HWZ3 := Lib.hid hrow
    clear hown hgrow hnl hlt hd hws2 hrow hw5 HO HN HA HU HV HDA
    obtain ⟨gq, cq, ewv, hgq⟩ : ∃ gq cq, wv3 = .slice (some ⟨gq, 0, none⟩) ws3.length cq ∧ (gq < Z3.heap.size ∧ ws3.length ≤ cq) := by
     rcases HWZ3.out.2 with ⟨q, h0⟩ | ⟨gq, cq, cur, q, hb, hh, h1, -⟩
     ·exact absurd h0 (by have := HW3.out; omega)
     ·exact ⟨gq, cq, q, (Array.getElem?_eq_some_iff.1 hh).1, h1⟩
    subst ewv
    have HTE := Lib.hid (show T = Lib.join ws3 [32] from by have q := HTZ3.out; rw [List.append_nil] at q; exact q)
    have HJ := Lib.hid (ljoin_any ws3 [32] gq cq Z3 (by have := HW3.out; omega) hgq.2 hgq.1 (fun j x hx => by
     have q := World.ownsRow.cells HWZ3.out rfl j (.string (bs x)) (by unfold sC; rw [List.getElem?_map, hx]; rfl)
     rwa [Addr.add_lit, Nat.zero_add] at q) (by rw [← HTE.out]; exact HLN.out))
    have HJ2 := Lib.hid (show Calls Tryz.prog 46 #[.slice (some ⟨gq, 0, none⟩) ws3.length cq, .string ⟨#[32]⟩] Z3 (RwT Z3 (Lib.join ws3 [32])) from HJ.out)
    clear hgq HJ
    go_wp2_with fail
    go_at_call 46; refine HJ2.out.mono ?_; rintro e9 w9 ⟨rfl, f9⟩
    have HF9 := Lib.hid (HFZ3.out.trans f9)
    clear f9
    go_wp2
    go_ret
    exact ⟨by rw [HTE.out]; rfl, HF9.out⟩
 | true =>
  have hnv := HFL.out.1 rfl
  have hn : n = true := hnv.1
  have hv : v = false := hnv.2
  subst hn
  subst hv
  have HTe := Lib.hid (show T = Lib.join (ws0 ++ [t2, t3] ++ [c.nm]) [32] from by rw [HT0.out]; simp)
  have s1 := HSZ0.out.c 1; have x2 := HBZ0.out.c 2; have x3 := HBZ0.out.c 3
  clear hnv
  go_upto_region 6 with fail
  obtain ⟨S, hS⟩ : ∃ S : World → Prop, S = (fun w8 => w8.cell? ⟨w.heap.size, 2, none⟩ = some (.int .i64 c.fr) ∧ w8.cell? ⟨w.heap.size, 3, none⟩ = some (.int .i64 c.tt)) := ⟨_, rfl⟩
  have HS := Lib.hid hS
  clear hS
  refine lst_start [7] S (by kernel_rfl) ?_
  have hS0 : S Z0.drew := by rw [HS.out]; exact ⟨x2, x3⟩
  refine takeP (i := 0) (d := some 23) (v := ?_) rfl rfl (by kernel_rfl) (by kernel_rfl) (by kernel_rfl) (by kernel_rfl) (by kernel_rfl) (fun _ _ _ h => h) (Or.inl ⟨by rfl, ?_⟩) (by first | exact Or.inr (by assumption) | exact Or.inl (by kernel_rfl)) ?_
  rotate_left
  ·((intro w8 _; go_simp); try with_reducible rfl)
  try simp only [Act.put, List.setIfInBounds_toArray, List.set_cons_succ, List.set_cons_zero]
  refine takeP (i := 1) (d := some 24) (v := ?_) rfl rfl (by kernel_rfl) (by kernel_rfl) (by kernel_rfl) (by kernel_rfl) (by kernel_rfl) (fun _ _ _ h => h) (Or.inl ⟨by rfl, ?_⟩) (by first | exact Or.inr (by assumption) | exact Or.inl (by kernel_rfl)) ?_
  rotate_left
  ·((intro w8 _; go_simp); try with_reducible rfl)
  try simp only [Act.put, List.setIfInBounds_toArray, List.set_cons_succ, List.set_cons_zero]
  refine takeL (i := 2) (d := some 25) (v := ?_) rfl rfl (by kernel_rfl) (by kernel_rfl) (by kernel_rfl) (by kernel_rfl) (by kernel_rfl) (fun _ _ _ h => h) (Or.inl ⟨by rfl, ?_⟩) (by assumption) ?_
  rotate_left
  ·((intro w8 hSw; rw [HS.out] at hSw; obtain ⟨s0, s1⟩ := hSw; go_simp); try with_reducible rfl)
  try simp only [Act.put, List.setIfInBounds_toArray, List.set_cons_succ, List.set_cons_zero]
  refine takeP (i := 4) (d := some 27) (v := ?_) rfl rfl (by kernel_rfl) (by kernel_rfl) (by kernel_rfl) (by kernel_rfl) (by kernel_rfl) (fun _ _ _ h => h) (Or.inl ⟨by rfl, ?_⟩) (by first | exact Or.inr (by assumption) | exact Or.inl (by kernel_rfl)) ?_
  rotate_left
  ·((intro w8 _; go_simp); try with_reducible rfl)
  try simp only [Act.put, List.setIfInBounds_toArray, List.set_cons_succ, List.set_cons_zero]
  refine takeL (i := 5) (d := some 28) (v := ?_) rfl rfl (by kernel_rfl) (by kernel_rfl) (by kernel_rfl) (by kernel_rfl) (by kernel_rfl) (fun _ _ _ h => h) (Or.inl ⟨by rfl, ?_⟩) (by assumption) ?_
  rotate_left
  ·((intro w8 hSw; rw [HS.out] at hSw; obtain ⟨s0, s1⟩ := hSw; go_simp); try with_reducible rfl)
  try simp only [Act.put, List.setIfInBounds_toArray, List.set_cons_succ, List.set_cons_zero]
  refine oneL (i := 3) rfl (by kernel_rfl) (fun K8 hK8 => ?_)
  go_simp
  go_at_call 44; refine (HI2.out _ (HG.out.onw (HFZ0.out.trans (Fuw.drew (Fuw.refl Z0))))).mono ?_; rintro e4 w4 ⟨rfl, f4⟩
  have fZ4 : Fuw Z0 w4 := (Fuw.drew (Fuw.refl Z0)).trans f4
  have hS1 : S w4 := by rw [HS.out]; exact ⟨cellOnw fZ4 x2, cellOnw fZ4 x3⟩
  refine hK8 _ _ hS1 ?_
  try simp only [Act.put, List.setIfInBounds_toArray, List.set_cons_succ, List.set_cons_zero]
  refine oneL (i := 6) rfl (by kernel_rfl) (fun K8 hK8 => ?_)
  go_simp
  go_at_call 44; refine (HI3.out _ (HG.out.onw (HFZ0.out.trans fZ4))).mono ?_; rintro e5 w5 ⟨rfl, f5⟩
  have fZ5 : Fuw Z0 w5 := fZ4.trans f5
  have hS2 : S w5 := by rw [HS.out]; exact ⟨cellOnw fZ5 x2, cellOnw fZ5 x3⟩
  refine hK8 _ _ hS2 ?_
  try simp only [Act.put, List.setIfInBounds_toArray, List.set_cons_succ, List.set_cons_zero]
  refine outL (i := 7) rfl (by kernel_rfl) (by kernel_rfl) (fun K8 hK8 => ?_)
  go_simp
  refine hK8 _ _ ?_
  try simp only [Act.put, List.setIfInBounds_toArray, List.set_cons_succ, List.set_cons_zero]
  have fA := fuwA w5 (.cells #[.string (bs t2), .string (bs t3)] 9)
  have HO := Lib.hid (own_on HWZ0.out (fZ5.trans fA))
  have HN := Lib.hid (news_S (l := [t2, t3]) (Bk.new w5 #[.string (bs t2), .string (bs t3)] 9))
  have HA := Lib.hid (HFZ0.out.trans (fZ5.trans fA))
  have HU := Lib.hid (HSZ0.out.on (fZ5.trans fA))
  have HV := Lib.hid (HBZ0.out.on (fZ5.trans fA))
  have HDA := Lib.hid (Nat.le_trans HDZ0.out.2.2 (fZ5.trans fA).size)
  have hw5 := HW0.out
  clear fA
  refine outL (i := 8) rfl (by kernel_rfl) (by kernel_rfl) (fun K8 hK8 => ?_)
  refine step_append_own rfl (.tmp 23) (.tmp 30) 46 rfl w3.heap.size 9 i0 _ 1 16 Tryz.underlying46 hi0 hz0 hz1 hz2 rfl (by decide) wv0 ws0.length (sC ws0) rfl HO.out ⟨w5.heap.size, 0, none⟩ 2 2 (sC [t2, t3]) rfl rfl HN.out (one_S _) (by unfold maxLen; omega) (by omega) HDA.out ?_
  intro wv1 Z1 hown hgrow hat
  refine hK8 _ _ ?_
  try simp only [Act.put, List.setIfInBounds_toArray]
  refine takeP (i := 9) (d := some 5) (v := ?_) rfl rfl (by kernel_rfl) (by kernel_rfl) (by kernel_rfl) (by kernel_rfl) (by kernel_rfl) (fun _ _ _ h => h) (Or.inl ⟨by rfl, ?_⟩) (by first | exact Or.inr (by assumption) | exact Or.inl (by kernel_rfl)) ?_
  rotate_left
  ·((intro w8 _; go_simp); try with_reducible rfl)
  try simp only [Act.put]
  refine lst_done (by kernel_rfl) ?_ _
  have hlt := fun q (hq : wv0.ownBlock = some q) => (World.ownsRow.lt HO.out q hq).1
  have hd := HDZ0.out
  have hrow : OwnS Z1 w3.heap.size wv1 (ws0 ++ [t2, t3]) := ownS_app (m := [t2, t3]) hown
  have HFZ1 := Lib.hid (show Fuw w Z1 from Below.grown HA.out hgrow HA.out.size (fun q hq => by have := hlt q hq; omega))
  have HBZ1 := Lib.hid (HV.out.grow hgrow (fun e => by have := hlt _ e.symm; omega))
  have HSZ1 := Lib.hid (HU.out.grow hgrow (fun e => by have := hlt _ e.symm; omega))
  have HDZ1 := Lib.hid (show w.heap.size < w3.heap.size ∧ w2.heap.size < w3.heap.size ∧ w3.heap.size ≤ Z1.heap.size from ⟨hd.1, hd.2.1, Nat.le_trans HDA.out hgrow.size⟩)
  obtain ⟨ws1, hws2⟩ : ∃ q9 : List (List UInt8), q9 = ws0 ++ [t2, t3] := ⟨_, rfl⟩
  have HW1 := Lib.hid (show 2 ≤ ws1.length ∧ ws1.length ≤ 4 from by rw [hws2, List.length_append]; simp; omega)
  have HTZ1 := Lib.hid (show T = Lib.join (ws1 ++ [c.nm]) [32] from by rw [HTe.out, hws2])
  rw [← hws2] at hrow
  have HWZ1 := Lib.hid hrow
  clear hown hgrow hat hlt hd hws2 hrow hw5 HO HN HA HU HV HDA hS0 hS1 hS2 HS fZ4 fZ5 f4 f5 x2 x3 s1
  have s2 := HSZ1.out.c 2; have s3 := HSZ1.out.c 3; have x4 := HBZ1.out.c 4
  have fA := fuwA Z1 (.cells #[.string (bs c.nm)] 9)
  have HO := Lib.hid (own_on HWZ1.out fA)
  have HN := Lib.hid (news_S (l := [c.nm]) (Bk.new Z1 #[.string (bs c.nm)] 9))
  have HA := Lib.hid (HFZ1.out.trans fA)
  have HU := Lib.hid (HSZ1.out.on fA)
  have HV := Lib.hid (HBZ1.out.on fA)
  have HDA := Lib.hid (Nat.le_trans HDZ1.out.2.2 fA.size)
  have hw5 := HW1.out
  clear fA
  go_wp2_with (at_builtin; refine wpList_append_own _ rfl (.tmp 34) (.tmp 37) 46 rfl w3.heap.size 9 i0 _ 1 16 Tryz.underlying46 hi0 hz0 hz1 hz2 rfl (by decide) wv1 ws1.length (sC ws1) rfl HO.out ⟨Z1.heap.size, 0, none⟩ 1 1 (sC [c.nm]) rfl rfl HN.out (one_S _) (by unfold maxLen; omega) (by omega) HDA.out ?_)
  intro wv2 Z2 hown hgrow hnl
  have hlt := fun q (hq : wv1.ownBlock = some q) => (World.ownsRow.lt HO.out q hq).1
  have hd := HDZ1.out
  have hrow : OwnS Z2 w3.heap.size wv2 (ws1 ++ [c.nm]) := ownS_app (m := [c.nm]) hown
  have HFZ2 := Lib.hid (show Fuw w Z2 from Below.grown HA.out hgrow HA.out.size (fun q hq => by have := hlt q hq; omega))
  have HBZ2 := Lib.hid (HV.out.grow hgrow (fun e => by have := hlt _ e.symm; omega))
  have HSZ2 := Lib.hid (HU.out.grow hgrow (fun e => by have := hlt _ e.symm; omega))
  have HDZ2 := Lib.hid (show w.heap.size < w3.heap.size ∧ w2.heap.size < w3.heap.size ∧ w3.heap.size ≤ Z2.heap.size from ⟨hd.1, hd.2.1, Nat.le_trans HDA.out hgrow.size⟩)
  obtain ⟨ws2, hws2⟩ : ∃ q9 : List (List UInt8), q9 = ws1 ++ [c.nm] := ⟨_, rfl⟩
  have HW2 := Lib.hid (show 2 ≤ ws2.length ∧ ws2.length ≤ 5 from by rw [hws2, List.length_append, List.length_singleton]; omega)
  have HTZ2 := Lib.hid (show T = Lib.join (ws2 ++ []) [32] from by rw [HTZ1.out, hws2]; simp)
  rw [← hws2] at hrow
  have HWZ2 := Lib.hid hrow
  clear hown hgrow hnl hlt hd hws2 hrow hw5 HO HN HA HU HV HDA
  have s3 := HSZ2.out.c 3
  obtain ⟨gq, cq, ewv, hgq⟩ : ∃ gq cq, wv2 = .slice (some ⟨gq, 0, none⟩) ws2.length cq ∧ (gq < Z2.heap.size ∧ ws2.length ≤ cq) := by
   rcases HWZ2.out.2 with ⟨q, h0⟩ | ⟨gq, cq, cur, q, hb, hh, h1, -⟩
   ·exact absurd h0 (by have := HW2.out; omega)
   ·exact ⟨gq, cq, q, (Array.getElem?_eq_some_iff.1 hh).1, h1⟩
  subst ewv
  have HTE := Lib.hid (show T = Lib.join ws2 [32] from by have q := HTZ2.out; rw [List.append_nil] at q; exact q)
  have HJ := Lib.hid (ljoin_any ws2 [32] gq cq Z2 (by have := HW2.out; omega) hgq.2 hgq.1 (fun j x hx => by
   have q := World.ownsRow.cells HWZ2.out rfl j (.string (bs x)) (by unfold sC; rw [List.getElem?_map, hx]; rfl)
   rwa [Addr.add_lit, Nat.zero_add] at q) (by rw [← HTE.out]; exact HLN.out))
  have HJ2 := Lib.hid (show Calls Tryz.prog 46 #[.slice (some ⟨gq, 0, none⟩) ws2.length cq, .string ⟨#[32]⟩] Z2 (RwT Z2 (Lib.join ws2 [32])) from HJ.out)
  clear hgq HJ
  go_wp2_with fail
  go_at_call 46; refine HJ2.out.mono ?_; rintro e9 w9 ⟨rfl, f9⟩
  have HF9 := Lib.hid (HFZ2.out.trans f9)
  clear f9
  go_wp2
  go_ret
  exact ⟨by rw [HTE.out]; rfl, HF9.out⟩
end Go.Proofs.YtpamdlkagmlahaaGreatDoor
