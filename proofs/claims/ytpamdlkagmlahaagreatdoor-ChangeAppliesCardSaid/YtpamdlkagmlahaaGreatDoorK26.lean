/-
  ChQ; ChZ: texts of one kind in one file; each part says what it holds.
-/
import Derived.Test.YtpamdlkagmlahaaGreatDoorK20
import Derived.Deep.RegionWith
import Derived.Test.YtpamdlkagmlahaaGreatDoorK24
import Derived.Test.YtpamdlkagmlahaaGreatDoorK23

namespace Go.Proofs.YtpamdlkagmlahaaGreatDoor
open Go.RowKit
theorem blks_addE {G : Gp} {v' : Value} {p : Nat} {x fr tt ne : Int} {ty : List UInt8} {k : Nat} (h : k ∈ blks ({ G with ve := v', es := insA G.es p ⟨x, fr, tt, ty, [], .slice none 0 0⟩, ne := ne } : Gp).rows) : v'.ownBlock = some k ∨ k ∈ blks G.rows := by
 obtain ⟨r, hr, hk⟩ := blks_mem.1 h
 rcases List.mem_cons.1 hr with rfl | hr
 ·exact .inr (blks_mem.2 ⟨_, List.mem_cons_self .., hk⟩)
 ·rcases List.mem_cons.1 hr with rfl | hr
  ·exact .inl hk
  ·refine .inr (blks_mem.2 ⟨r, ?_, hk⟩)
   have hr' := (inR_insE G.ns G.es G.xs p ⟨x, fr, tt, ty, [], .slice none 0 0⟩).mem_iff.2 hr
   rcases List.mem_append.1 hr' with e | e
   ·exfalso
    simp only [Ep.rows, List.mem_cons, List.not_mem_nil, or_false] at e
    rcases e with rfl; cases hk
   ·exact List.mem_cons_of_mem _ (List.mem_cons_of_mem _ e)
theorem GOwn.addE {w0 w w' : World} {base : Nat} {G : Gp} (h : GOwn w0 w base G) {v' : Value} {p : Nat} {x fr tt : Int} {ty : List UInt8} (hx : I64 x) (hfr : I64 fr) (htt : I64 tt) (hty : ty.length ≤ maxLen) (ne : Int) (hne : I64 ne)
  (ho : w'.ownsRow base 53 5 v' (G.es.length + 1) ((csE G.es).take (p * 5) ++ [.int .i64 x, .int .i64 fr, .int .i64 tt, .string (bs ty), .slice none 0 0] ++ (csE G.es).drop (p * 5)))
  (hg : w.grownBy w' G.ve.ownBlock) (hat : v'.ownBlock = G.ve.ownBlock ∨ ∀ k, v'.ownBlock = some k → w.heap.size ≤ k) (hf : Fuw w0 w') :
  GOwn w0 w' base { G with ve := v', es := insA G.es p ⟨x, fr, tt, ty, [], .slice none 0 0⟩, ne := ne } := by
 refine ⟨?_, h.no, fun y hy => ?_, h.i1, hne, hf, h.lo⟩
 ·have e : rowE v' (insA G.es p ⟨x, fr, tt, ty, [], .slice none 0 0⟩) = ⟨53, 5, v', G.es.length + 1, (csE G.es).take (p * 5) ++ [.int .i64 x, .int .i64 fr, .int .i64 tt, .string (bs ty), .slice none 0 0] ++ (csE G.es).drop (p * 5)⟩ := by
   unfold rowE
   rw [csE_ins, insA_len]
   rfl
  have h1 : Rows w' base (rowE v' (insA G.es p ⟨x, fr, tt, ty, [], .slice none 0 0⟩) :: rowN G.vn G.ns :: inR G.ns G.es G.xs) := by
   rw [e]
   exact Rows.turn (h.rows.perm (List.Perm.swap _ _ _)) hg ho hat
  have h2 := h1.none_ 48 6
  refine h2.perm ?_
  show (_ :: rowE v' _ :: rowN G.vn G.ns :: inR G.ns G.es G.xs).Perm (rowN G.vn G.ns :: rowE v' _ :: inR G.ns (insA G.es p ⟨x, fr, tt, ty, [], .slice none 0 0⟩) G.xs)
  have k := inR_insE G.ns G.es G.xs p ⟨x, fr, tt, ty, [], .slice none 0 0⟩
  refine List.Perm.trans ?_ ((k.cons _).cons _)
  refine List.Perm.trans (List.Perm.swap _ _ _) ?_
  refine List.Perm.trans ((List.Perm.swap _ _ _).cons _) ?_
  exact List.Perm.swap _ _ _
 ·rcases insA_mem.1 hy with rfl | hy
  ·exact ⟨hx, hfr, htt, hty, (fun q hq => by cases hq)⟩
  ·exact h.eo y hy
set_option maxHeartbeats 6400000 in
set_option maxRecDepth 100000 in
theorem addedge_any {w0 w : World} {base B : Nat} {G : Gp} (h : GBox w0 w base B G) (hv : GVal G.gr) (c : Ch) (a : Option Addr) (k : Nat) (hi : 1 ≤ c.id ∧ c.id ≤ 1000000) (hfr : I64 c.fr) (htt : I64 c.tt) (hty : c.nm.length ≤ maxLen) :
  Calls Tryz.prog 77 #[.pointer (some ⟨B, 0, none⟩), .agg (chC c a k)] w (RetEd w0 w base B G.xs (if hasE G.gr.es c.id = true then 7 else if (hasN G.gr.ns c.fr && hasN G.gr.ns c.tt) = false then 10 else if 4000 ≤ G.gr.es.length then 20 else 0) (addE G.gr c)) := by
 have hlb : base ≤ w.heap.size := Nat.le_trans h.hi (Nat.le_of_lt h.box.lt)
 obtain ⟨W, hW⟩ : ∃ W, W = w.alloc (.cells (chC c a k) 30) := ⟨_, rfl⟩
 have fW : Fuw w W := by rw [hW]; exact fuwA _ _
 have bW : Bk W w.heap.size (chC c a k) 30 := by rw [hW]; exact Bk.new _ _ _
 have hGW := h.later fW
 have hnl : G.ns.length ≤ 5000 := by have := hv.n; unfold Gp.gr at this; rw [List.length_map] at this; omega
 have HFN := Lib.hid (fedge_any hGW c.id hv.pe (by have := hv.e; unfold Gp.gr at this; rw [List.length_map] at this; omega))
 have HN1 := Lib.hid (fun (w' : World) (hf : Fuw W w') => hasnode_any (hGW.later hf) c.fr hv.pn hnl)
 have HN2 := Lib.hid (fun (w' : World) (hf : Fuw W w') => hasnode_any (hGW.later hf) c.tt hv.pn hnl)
 obtain ⟨R, hR⟩ : ∃ R, R = (if hasE G.gr.es c.id = true then 7 else if (hasN G.gr.ns c.fr && hasN G.gr.ns c.tt) = false then 10 else if 4000 ≤ G.gr.es.length then 20 else 0 : Int) := ⟨_, rfl⟩
 rw [← hR]
 generalize hasE G.gr.es c.id = q at *
 generalize hasN G.gr.ns c.fr = q1 at *
 generalize hasN G.gr.ns c.tt = q2 at *
 have HR := Lib.hid hR
 clear hR
 obtain ⟨p, hp⟩ : ∃ p, p = atI (eidsV G.gr.es) c.id := ⟨_, rfl⟩
 rw [← hp] at HFN
 have HBW := Lib.hid bW
 have HGW := Lib.hid hGW
 have HFW := Lib.hid fW
 have HP := Lib.hid hp
 have d1 := bW.c 1
 have HL := Lib.hid hlb
 have HV := Lib.hid hv
 have HI := Lib.hid hi
 have HLB := Lib.hid (show B < w.heap.size from h.box.lt)
 have HLT := Lib.hid (fun k (e : G.ve.ownBlock = some k) => (h.own.erow.lt k e).2)
 have HX := Lib.hid (And.intro hfr (And.intro htt hty))
 unfold chC at hW d1 ⊢
 clear hp h hv hGW fW bW hlb hi hnl hfr htt hty
 go_enter Tryz.func77, Tryz.ntmps77
 go_upto_region 1 with fail
 rw [← hW]
 clear hW
 go_wp2_with fail
 go_at_call 109; refine HFN.out.mono ?_; rintro e1 w1 ⟨rfl, f1⟩
 have HF1 := Lib.hid (HFW.out.trans f1)
 have HG1 := Lib.hid (HGW.out.later f1)
 have HB1 := Lib.hid (HBW.out.on f1)
 have HQ1 := Lib.hid (HN1.out w1 f1)
 have HQ2 := Lib.hid (fun (w' : World) (hf : Fuw w1 w') => HN2.out w' (f1.trans hf))
 clear d1 f1 HFN HGW HBW HN1 HN2
 cases q with
 | true =>
  have HE := Lib.hid (show R = 7 from HR.out.trans (if_pos rfl))
  go_wp2
  go_ret
  exact ⟨ret_int HE.out.symm, below_of HF1.out HL.out, HF1.out.size, fun e => by rw [HE.out] at e; cases e⟩
 | false =>
  have d2 := HB1.out.c 2
  have d3 := HB1.out.c 3
  unfold chC at d2 d3
  go_upto_region 4 with fail
  go_wp2_with fail
  go_at_call 110; refine HQ1.out.mono ?_; rintro e2 w2 ⟨rfl, f2⟩
  cases q1 with
  | false =>
   have HE := Lib.hid (show R = 10 from HR.out.trans ((if_neg (by decide)).trans (if_pos (by rfl))))
   have HF2 := Lib.hid (HF1.out.trans f2)
   clear f2
   go_wp2
   go_ret
   exact ⟨ret_int HE.out.symm, below_of HF2.out HL.out, HF2.out.size, fun e => by rw [HE.out] at e; cases e⟩
  | true =>
   have d3' : w2.cell? ⟨w.heap.size, 3, none⟩ = some (.int .i64 c.tt) := cellOnw f2 d3
   have HQ2' := Lib.hid (HQ2.out w2 f2)
   have HF2 := Lib.hid f2
   clear HQ2 f2 d2 d3
   go_wp2_with fail
   go_at_call 110; refine HQ2'.out.mono ?_; rintro e3 w3 ⟨rfl, f3⟩
   have HF3 := Lib.hid (HF1.out.trans (HF2.out.trans f3))
   have HG3 := Lib.hid (HG1.out.later (HF2.out.trans f3))
   have HB3 := Lib.hid (HB1.out.on (HF2.out.trans f3))
   clear f3 HF1 HG1 HB1 HF2 HQ2' HQ1 d3'
   cases q2 with
   | false =>
    have HE := Lib.hid (show R = 10 from HR.out.trans ((if_neg (by decide)).trans (if_pos (by rfl))))
    go_wp2
    go_ret
    exact ⟨ret_int HE.out.symm, below_of HF3.out HL.out, HF3.out.size, fun e => by rw [HE.out] at e; cases e⟩
   | true =>
    obtain ⟨an, cn, en, -⟩ := HG3.out.own.sle
    have c0 := HG3.out.box.c 1
    simp only [en] at c0
    have HEN := Lib.hid en
    clear en
    have hlen : G.gr.es.length = G.es.length := by unfold Gp.gr; rw [List.length_map]
    by_cases hfull : 4000 ≤ G.es.length
    ·have hq : ((G.es.length : Int) == 4000) = true := by
      have := HV.out.e
      rw [hlen] at this
      rw [beq_iff_eq]; omega
     have HE := Lib.hid (show R = 20 from HR.out.trans ((if_neg (by decide)).trans ((if_neg (by decide)).trans (if_pos (by rw [hlen]; exact hfull)))))
     clear hlen
     go_wp2
     go_ret
     exact ⟨ret_int HE.out.symm, below_of HF3.out HL.out, HF3.out.size, fun e => by rw [HE.out] at e; cases e⟩
    ·have hq : ((G.es.length : Int) == 4000) = false := by rw [beq_eq_false_iff_ne]; omega
     have HE := Lib.hid (show R = 0 from HR.out.trans ((if_neg (by decide)).trans ((if_neg (by decide)).trans (if_neg (by rw [hlen]; exact hfull)))))
     clear hlen
     have hpl : p ≤ G.es.length := by
      rw [HP.out]
      have := atI_le (eidsV G.gr.es) c.id
      unfold eidsV Gp.gr at this
      rw [List.length_map, List.length_map] at this
      exact this
     have HIN := Lib.hid (show Calls Tryz.prog 111 #[.slice an G.es.length cn, .int .i64 (p : Int), .slice (some ⟨w3.heap.size, 0, none⟩) 1 1] (w3.drew.alloc (.cells #[.int .i64 c.id, .int .i64 c.fr, .int .i64 c.tt, .string (bs c.nm), .slice none 0 0] 53)) (RetIns (w3.drew.alloc (.cells #[.int .i64 c.id, .int .i64 c.fr, .int .i64 c.tt, .string (bs c.nm), .slice none 0 0] 53)) base 53 5 (.slice an G.es.length cn) (G.es.length + 1) ((csE G.es).take (p * 5) ++ [.int .i64 c.id, .int .i64 c.fr, .int .i64 c.tt, .string (bs c.nm), .slice none 0 0] ++ (csE G.es).drop (p * 5))) from by
      have hr := HG3.out.own.erow
      unfold rowE Rw.Own at hr
      simp only [HEN.out] at hr
      have hr2 := own_on hr (show Fuw w3 (w3.drew.alloc (.cells #[.int .i64 c.id, .int .i64 c.fr, .int .i64 c.tt, .string (bs c.nm), .slice none 0 0] 53)) from (Fuw.drew (Fuw.refl _)).alloc _)
      exact ins_e hr2 p hpl (by omega) (by have := HF3.out.size; have := HL.out; simp; omega) (Bk.new w3.drew _ _) rfl (fun e => by have := (hr.lt _ e).2; omega) HG3.out.own.oneE (by intro u hu; simp at hu; rcases hu with rfl | rfl | rfl | rfl | rfl <;> rfl))
     have HNE := Lib.hid (show some B ≠ (Value.slice an G.es.length cn).ownBlock from fun e => HG3.out.far (blks_mem.2 ⟨rowE G.ve G.es, List.mem_cons_of_mem _ (List.mem_cons_self ..), by unfold rowE; rw [HEN.out]; exact e.symm⟩))
     have HBX := Lib.hid (show Bk (w3.drew.alloc (.cells #[.int .i64 c.id, .int .i64 c.fr, .int .i64 c.tt, .string (bs c.nm), .slice none 0 0] 53)) B #[G.vn, .slice an G.es.length cn, .int .i64 G.nn, .int .i64 G.ne] 25 from by
      have := HG3.out.box.on (show Fuw w3 (w3.drew.alloc (.cells #[.int .i64 c.id, .int .i64 c.fr, .int .i64 c.tt, .string (bs c.nm), .slice none 0 0] 53)) from (Fuw.drew (Fuw.refl _)).alloc _)
      rw [HEN.out] at this
      exact this)
     clear hfull
     have d1 := HB3.out.c 1
     have d2 := HB3.out.c 2
     have d3 := HB3.out.c 3
     have d4 := HB3.out.c 4
     unfold chC at d1 d2 d3 d4
     have lB : B < w3.heap.size := HG3.out.box.lt
     have lC : w.heap.size < w3.heap.size := HB3.out.lt
     go_upto_region 8 with fail
     obtain ⟨S, hS⟩ : ∃ S : World → Prop, S = (fun w8 => w8.cell? ⟨w.heap.size, 1, none⟩ = some (.int .i64 c.id) ∧ w8.cell? ⟨w.heap.size, 2, none⟩ = some (.int .i64 c.fr) ∧ w8.cell? ⟨w.heap.size, 3, none⟩ = some (.int .i64 c.tt) ∧ w8.cell? ⟨w.heap.size, 4, none⟩ = some (.string (bs c.nm)) ∧ w8.cell? ⟨B, 1, none⟩ = some (.slice an G.es.length cn)) := ⟨_, rfl⟩
     have HS := Lib.hid hS
     clear hS
     refine lst_start [19] S (by kernel_rfl) ?_
     have hS0 : S w3.drew := by rw [HS.out]; exact ⟨d1, d2, d3, d4, c0⟩
     refine takeP (i := 0) (d := some 33) (v := ?_) rfl rfl (by kernel_rfl) (by kernel_rfl) (by kernel_rfl) (by kernel_rfl) (by kernel_rfl) (fun _ _ _ h => h) (Or.inl ⟨by rfl, ?_⟩) (by first | exact Or.inr (by assumption) | exact Or.inl (by kernel_rfl)) ?_
     rotate_left
     ·((intro w8 _; go_simp); try with_reducible rfl)
     try simp only [Act.put, List.setIfInBounds_toArray, List.set_cons_succ, List.set_cons_zero]
     refine takeP (i := 1) (d := some 34) (v := ?_) rfl rfl (by kernel_rfl) (by kernel_rfl) (by kernel_rfl) (by kernel_rfl) (by kernel_rfl) (fun _ _ _ h => h) (Or.inl ⟨by rfl, ?_⟩) (by first | exact Or.inr (by assumption) | exact Or.inl (by kernel_rfl)) ?_
     rotate_left
     ·((intro w8 _; go_simp); try with_reducible rfl)
     try simp only [Act.put, List.setIfInBounds_toArray, List.set_cons_succ, List.set_cons_zero]
     refine takeP (i := 2) (d := some 35) (v := ?_) rfl rfl (by kernel_rfl) (by kernel_rfl) (by kernel_rfl) (by kernel_rfl) (by kernel_rfl) (fun _ _ _ h => h) (Or.inl ⟨by rfl, ?_⟩) (by first | exact Or.inr (by assumption) | exact Or.inl (by kernel_rfl)) ?_
     rotate_left
     ·((intro w8 _; go_simp); try with_reducible rfl)
     try simp only [Act.put, List.setIfInBounds_toArray, List.set_cons_succ, List.set_cons_zero]
     refine takeP (i := 3) (d := some 36) (v := ?_) rfl rfl (by kernel_rfl) (by kernel_rfl) (by kernel_rfl) (by kernel_rfl) (by kernel_rfl) (fun _ _ _ h => h) (Or.inl ⟨by rfl, ?_⟩) (by first | exact Or.inr (by assumption) | exact Or.inl (by kernel_rfl)) ?_
     rotate_left
     ·((intro w8 _; go_simp); try with_reducible rfl)
     try simp only [Act.put, List.setIfInBounds_toArray, List.set_cons_succ, List.set_cons_zero]
     refine takeL (i := 4) (d := some 37) (v := ?_) rfl rfl (by kernel_rfl) (by kernel_rfl) (by kernel_rfl) (by kernel_rfl) (by kernel_rfl) (fun _ _ _ h => h) (Or.inl ⟨by rfl, ?_⟩) (by assumption) ?_
     rotate_left
     ·((intro w8 hSw; rw [HS.out] at hSw; obtain ⟨s1, s2, s3, s4, s5⟩ := hSw; go_simp); try with_reducible rfl)
     try simp only [Act.put, List.setIfInBounds_toArray, List.set_cons_succ, List.set_cons_zero]
     refine takeP (i := 5) (d := some 38) (v := ?_) rfl rfl (by kernel_rfl) (by kernel_rfl) (by kernel_rfl) (by kernel_rfl) (by kernel_rfl) (fun _ _ _ h => h) (Or.inl ⟨by rfl, ?_⟩) (by first | exact Or.inr (by assumption) | exact Or.inl (by kernel_rfl)) ?_
     rotate_left
     ·((intro w8 _; go_simp); try with_reducible rfl)
     try simp only [Act.put, List.setIfInBounds_toArray, List.set_cons_succ, List.set_cons_zero]
     refine takeP (i := 6) (d := some 39) (v := ?_) rfl rfl (by kernel_rfl) (by kernel_rfl) (by kernel_rfl) (by kernel_rfl) (by kernel_rfl) (fun _ _ _ h => h) (Or.inl ⟨by rfl, ?_⟩) (by first | exact Or.inr (by assumption) | exact Or.inl (by kernel_rfl)) ?_
     rotate_left
     ·((intro w8 _; go_simp); try with_reducible rfl)
     try simp only [Act.put, List.setIfInBounds_toArray, List.set_cons_succ, List.set_cons_zero]
     refine takeL (i := 7) (d := some 40) (v := ?_) rfl rfl (by kernel_rfl) (by kernel_rfl) (by kernel_rfl) (by kernel_rfl) (by kernel_rfl) (fun _ _ _ h => h) (Or.inl ⟨by rfl, ?_⟩) (by assumption) ?_
     rotate_left
     ·((intro w8 hSw; rw [HS.out] at hSw; obtain ⟨s1, s2, s3, s4, s5⟩ := hSw; go_simp); try with_reducible rfl)
     try simp only [Act.put, List.setIfInBounds_toArray, List.set_cons_succ, List.set_cons_zero]
     refine takeP (i := 8) (d := some 41) (v := ?_) rfl rfl (by kernel_rfl) (by kernel_rfl) (by kernel_rfl) (by kernel_rfl) (by kernel_rfl) (fun _ _ _ h => h) (Or.inl ⟨by rfl, ?_⟩) (by first | exact Or.inr (by assumption) | exact Or.inl (by kernel_rfl)) ?_
     rotate_left
     ·((intro w8 _; go_simp); try with_reducible rfl)
     try simp only [Act.put, List.setIfInBounds_toArray, List.set_cons_succ, List.set_cons_zero]
     refine takeL (i := 9) (d := some 42) (v := ?_) rfl rfl (by kernel_rfl) (by kernel_rfl) (by kernel_rfl) (by kernel_rfl) (by kernel_rfl) (fun _ _ _ h => h) (Or.inl ⟨by rfl, ?_⟩) (by assumption) ?_
     rotate_left
     ·((intro w8 hSw; rw [HS.out] at hSw; obtain ⟨s1, s2, s3, s4, s5⟩ := hSw; go_simp); try with_reducible rfl)
     try simp only [Act.put, List.setIfInBounds_toArray, List.set_cons_succ, List.set_cons_zero]
     refine takeP (i := 10) (d := some 43) (v := ?_) rfl rfl (by kernel_rfl) (by kernel_rfl) (by kernel_rfl) (by kernel_rfl) (by kernel_rfl) (fun _ _ _ h => h) (Or.inl ⟨by rfl, ?_⟩) (by first | exact Or.inr (by assumption) | exact Or.inl (by kernel_rfl)) ?_
     rotate_left
     ·((intro w8 _; go_simp); try with_reducible rfl)
     try simp only [Act.put, List.setIfInBounds_toArray, List.set_cons_succ, List.set_cons_zero]
     refine takeL (i := 11) (d := some 44) (v := ?_) rfl rfl (by kernel_rfl) (by kernel_rfl) (by kernel_rfl) (by kernel_rfl) (by kernel_rfl) (fun _ _ _ h => h) (Or.inl ⟨by rfl, ?_⟩) (by assumption) ?_
     rotate_left
     ·((intro w8 hSw; rw [HS.out] at hSw; obtain ⟨s1, s2, s3, s4, s5⟩ := hSw; go_simp); try with_reducible rfl)
     try simp only [Act.put, List.setIfInBounds_toArray, List.set_cons_succ, List.set_cons_zero]
     refine takeP (i := 12) (d := some 45) (v := ?_) rfl rfl (by kernel_rfl) (by kernel_rfl) (by kernel_rfl) (by kernel_rfl) (by kernel_rfl) (fun _ _ _ h => h) (Or.inl ⟨by rfl, ?_⟩) (by first | exact Or.inr (by assumption) | exact Or.inl (by kernel_rfl)) ?_
     rotate_left
     ·((intro w8 _; go_simp); try with_reducible rfl)
     try simp only [Act.put, List.setIfInBounds_toArray, List.set_cons_succ, List.set_cons_zero]
     refine takeL (i := 13) (d := some 46) (v := ?_) rfl rfl (by kernel_rfl) (by kernel_rfl) (by kernel_rfl) (by kernel_rfl) (by kernel_rfl) (fun _ _ _ h => h) (Or.inl ⟨by rfl, ?_⟩) (by assumption) ?_
     rotate_left
     ·((intro w8 hSw; rw [HS.out] at hSw; obtain ⟨s1, s2, s3, s4, s5⟩ := hSw; go_simp); try with_reducible rfl)
     try simp only [Act.put, List.setIfInBounds_toArray, List.set_cons_succ, List.set_cons_zero]
     refine takeP (i := 14) (d := some 47) (v := ?_) rfl rfl (by kernel_rfl) (by kernel_rfl) (by kernel_rfl) (by kernel_rfl) (by kernel_rfl) (fun _ _ _ h => h) (Or.inl ⟨by rfl, ?_⟩) (by first | exact Or.inr (by assumption) | exact Or.inl (by kernel_rfl)) ?_
     rotate_left
     ·((intro w8 _; go_simp); try with_reducible rfl)
     try simp only [Act.put, List.setIfInBounds_toArray, List.set_cons_succ, List.set_cons_zero]
     have FA : Fuw w3 (w3.drew.alloc (.cells #[.int .i64 c.id, .int .i64 c.fr, .int .i64 c.tt, .string (bs c.nm), .slice none 0 0] 53)) := (Fuw.drew (Fuw.refl _)).alloc _
     have hS1 : S (w3.drew.alloc (.cells #[.int .i64 c.id, .int .i64 c.fr, .int .i64 c.tt, .string (bs c.nm), .slice none 0 0] 53)) := by rw [HS.out]; exact ⟨cellOnw FA d1, cellOnw FA d2, cellOnw FA d3, cellOnw FA d4, cellOnw FA c0⟩
     refine oneL (i := 15) rfl (by kernel_rfl) (fun K8 hK8 => ?_)
     go_simp
     refine hK8 _ _ hS1 ?_
     try simp only [Act.put, List.setIfInBounds_toArray, List.set_cons_succ, List.set_cons_zero]
     refine oneL (i := 16) rfl (by kernel_rfl) (fun K8 hK8 => ?_)
     go_simp
     go_at_call 111; refine (HIN.out).mono ?_; rintro e4 w4 ⟨v2, rfl, hown2, hgr2, hat2⟩; obtain ⟨g2, k2, rfl, hg2, hg2'⟩ := hown2.form (by omega); have hb2 := HBX.out.grow hgr2 HNE.out; have m0 := hb2.c 1; have z0 := hb2.f 1
     have bC4 : Bk w4 w.heap.size (chC c a k) 30 := (HB3.out.on FA).grow hgr2 (fun e => by have := HLT.out w.heap.size (by rw [HEN.out]; exact e.symm); omega)
     have hS2 : S w4 := by rw [HS.out]; exact ⟨bC4.c 1, bC4.c 2, bC4.c 3, bC4.c 4, m0⟩
     refine hK8 _ _ hS2 ?_
     try simp only [Act.put, List.setIfInBounds_toArray, List.set_cons_succ, List.set_cons_zero]
     refine takeP (i := 17) (d := some 50) (v := ?_) rfl rfl (by kernel_rfl) (by kernel_rfl) (by kernel_rfl) (by kernel_rfl) (by kernel_rfl) (fun _ _ _ h => h) (Or.inl ⟨by rfl, ?_⟩) (by first | exact Or.inr (by assumption) | exact Or.inl (by kernel_rfl)) ?_
     rotate_left
     ·((intro w8 _; go_simp); try with_reducible rfl)
     try simp only [Act.put, List.setIfInBounds_toArray, List.set_cons_succ, List.set_cons_zero]
     refine takeP (i := 18) (d := some 51) (v := ?_) rfl rfl (by kernel_rfl) (by kernel_rfl) (by kernel_rfl) (by kernel_rfl) (by kernel_rfl) (fun _ _ _ h => h) (Or.inl ⟨by rfl, ?_⟩) (by first | exact Or.inr (by assumption) | exact Or.inl (by kernel_rfl)) ?_
     rotate_left
     ·((intro w8 _; go_simp); try with_reducible rfl)
     try simp only [Act.put, List.setIfInBounds_toArray, List.set_cons_succ, List.set_cons_zero]
     refine outL (i := 19) rfl (by kernel_rfl) (by kernel_rfl) (fun K8 hK8 => ?_)
     go_simp
     refine hK8 _ _ ?_
     try simp only [Act.put, List.setIfInBounds_toArray, List.set_cons_succ, List.set_cons_zero]
     refine lst_done (by kernel_rfl) ?_ _
     clear hS0 hS1 hS2 bC4 FA
     all_goals
      have HFA := Lib.hid (show Fuw w3 (w3.drew.alloc (.cells #[.int .i64 c.id, .int .i64 c.fr, .int .i64 c.tt, .string (bs c.nm), .slice none 0 0] 53)) from (Fuw.drew (Fuw.refl _)).alloc _)
      have HGA := Lib.hid (HG3.out.own.later HFA.out)
      obtain ⟨M, hM⟩ : ∃ M, M = max G.ne (c.id + 1) := ⟨_, rfl⟩
      have hMi : I64 M := by
       have h1 := HV.out.ne
       have h2 := HI.out
       have e1 : G.gr.ne = G.ne := rfl
       rw [e1] at h1
       unfold I64
       omega
      have HF2 := Lib.hid (show Below base w3 w4 from Below.trans (below_of HFA.out (by have := HF3.out.size; have := HL.out; omega)) (below_grown hgr2 (by have := HF3.out.size; have := HL.out; simp; omega) (fun k hk => (HG3.out.own.erow.lt k (by show G.ve.ownBlock = some k; rw [HEN.out]; exact hk)).1)))
      have hfu : Fuw w0 w4 := HG3.out.own.fu.trans_below HF2.out HG3.out.own.lo
      have hng := GOwn.addE HGA.out (v' := .slice (some ⟨g2, 0, none⟩) (G.es.length + 1) k2) (p := p) (x := c.id) (by have := HI.out; unfold I64; omega) HX.out.1 HX.out.2.1 HX.out.2.2 M hMi hown2 (by rw [HEN.out]; exact hgr2) (by rw [HEN.out]; exact hat2) hfu
      have hfar : B ∉ blks ({ G with ve := .slice (some ⟨g2, 0, none⟩) (G.es.length + 1) k2, es := insA G.es p ⟨c.id, c.fr, c.tt, c.nm, [], .slice none 0 0⟩, ne := M } : Gp).rows := fun hB => by
       rcases blks_addE hB with e | e
       ·rcases hat2 with q | q
        ·exact HNE.out (by rw [← e, q])
        ·have := q B e
         have := HG3.out.box.lt
         simp at *
         omega
       ·exact HG3.out.far e
      obtain ⟨V, hV⟩ : ∃ V, V = w4.setCell ⟨B, 1, none⟩ (.slice (some ⟨g2, 0, none⟩) (G.es.length + 1) k2) := ⟨_, rfl⟩
      have bV : Bk V B #[G.vn, .slice (some ⟨g2, 0, none⟩) (G.es.length + 1) k2, .int .i64 G.nn, .int .i64 G.ne] 25 := by rw [hV]; exact hb2.set_ 1 _
      have bC : Bk V w.heap.size (chC c a k) 30 := by
       rw [hV]
       refine ((HB3.out.on HFA.out).grow hgr2 (fun e => ?_)).far (show w.heap.size ≠ B from fun e => by have := HLB.out; omega) _
       have := HLT.out w.heap.size (by rw [HEN.out]; exact e.symm)
       omega
      have HFIN := Lib.hid (show RetEd w0 w base B G.xs R (addE G.gr c) (.returned (.int .i64 R)) ((V.setCell ⟨B, 3, none⟩ (.int .i64 M)).drew) from by
       have hbB : base ≤ B := HG3.out.hi
       have hBV : V.heap.size = w4.heap.size := by rw [hV]; simp
       refine ⟨rfl, ?_, ?_, fun _ => ⟨_, ⟨?_, ?_, hfar, hbB⟩, ?_, rfl⟩⟩
       ·refine Below.drew (Below.setCell ?_ hbB _)
        rw [hV]
        exact Below.setCell ((below_of HF3.out HL.out).trans (HF2.out)) hbB _
       ·have := HF3.out.size
        have := HF2.out.size
        simp [hBV]; omega
       ·refine (GOwn.far ?_ hfar hbB).drew
        rw [hV]
        exact hng.far hfar hbB
       ·exact bV.set_ 3 (.int .i64 M)
       ·unfold Gp.gr addE
        simp only
        rw [insA_map, hM, HP.out]
        rfl)
      rw [← hV]
      have m2 := bV.c 3
      have z2 := bV.f 3
      have n1 := bC.c 1
      unfold chC at n1
      have hwr : IntKind.i64.wrap (c.id + 1) = c.id + 1 := by have := HI.out; rw [IntKind.wrap_i64]; omega
      have HMM := Lib.hid hM
      have HRZ := Lib.hid HE.out
      clear hV bV bC hng hfar hfu hMi hM hat2 hgr2 hown2 hb2 m0 z0 hg2 hg2' c0 d1 d2 d3 d4 HIN hpl hq
      rw [HMM.out] at HFIN
      go_upto_region 9 with fail
      go_region
      all_goals
       go_wp2
       go_ret
       exact (by rw [HRZ.out] at HFIN ⊢; exact HFIN.out)
end Go.Proofs.YtpamdlkagmlahaaGreatDoor

namespace Go.Proofs.YtpamdlkagmlahaaGreatDoor
open Go.RowKit
set_option maxHeartbeats 6400000 in
set_option maxRecDepth 100000 in
theorem setprop_any {w0 w : World} {base B g o : Nat} {v : Value} {pm : List (Pp × AC)} (F : List Pp → Gr) (mk : Value → List (Pp × AC) → Gp)
  (hrow : (rowP v pm).Own w base) (hpm : PmOk w0 pm) (hf0 : Fuw w0 w) (hb : base ≤ w.heap.size) (hc : w.cell? ⟨g, o, none⟩ = some v)
  (xs : List Rw) (hmk : ∀ v' pm', (mk v' pm').gr = F (pm'.map Prod.fst)) (hxs : ∀ v' pm', (mk v' pm').xs = xs)
  (hset : ∀ (w1 : World) (v' : Value) (pm' : List (Pp × AC)) (w2 : World), Fuw w w1 → (rowP v' pm').Own w2 base → w1.grownBy w2 v.ownBlock → (v'.ownBlock = v.ownBlock ∨ ∀ k, v'.ownBlock = some k → w1.heap.size ≤ k) → PmOk w0 pm' →
   w2.cell? ⟨g, o, none⟩ = some v ∧ w2.frozen? ⟨g, o, none⟩ = false ∧ Below base w2 (w2.setCell ⟨g, o, none⟩ v') ∧ GBox w0 (w2.setCell ⟨g, o, none⟩ v') base B (mk v' pm'))
  (key : List UInt8) (hk : key.length ≤ maxLen) (x : Vl) (hx : Vin x) (ax : Option Addr) (kx : Nat) (hsx : SlV w0 ax x.ll kx) (hinc : incS (keysV (pm.map Prod.fst))) (h16 : pm.length ≤ 16) :
  Calls Tryz.prog 112 #[.pointer (some ⟨g, o, none⟩), .string (bs key), vlv x ax kx] w (RetEd w0 w base B xs (setE (pm.map Prod.fst) key x) (F (setP (pm.map Prod.fst) key x))) := by
 have HXS := Lib.hid hxs
 clear hxs
 obtain ⟨ap, cp, ev, sp⟩ := pm_row hrow hpm hf0
 obtain ⟨W, hW⟩ : ∃ W, W = w.alloc (.cells #[.int .i64 x.kd, .int .i64 x.nn, .int .i64 x.dd, .string (bs x.ss), .slice ax x.ll.length kx] 28) := ⟨_, rfl⟩
 have fW : Fuw w W := by rw [hW]; exact fuwA _ _
 have bW : Bk W w.heap.size #[.int .i64 x.kd, .int .i64 x.nn, .int .i64 x.dd, .string (bs x.ss), .slice ax x.ll.length kx] 28 := by rw [hW]; exact Bk.new _ _ _
 obtain ⟨kf, ka⟩ := fnd_key (s := key) hinc
 have HFN := Lib.hid (show Calls Tryz.prog 163 #[.slice ap pm.length cp, .string (bs key), .func (.func 164) #[] #[]] W (RetFi W (atS (keysV (pm.map Prod.fst)) key) (hasK (pm.map Prod.fst) key)) from by
  have k := fnp_any (pm.map Prod.fst) ap cp key W (slP_on fW sp) (mon_key hinc) (by rw [List.length_map]; omega)
  rw [List.length_map] at k
  refine k.mono fun e' w' ⟨h1, h2⟩ => ⟨?_, h2⟩
  rw [h1, kf, ka])
 have HNU := Lib.hid (fun (w' : World) (hf : Fuw w w') => isnull_any x ax kx w' hx (hsx.onw (hf0.trans hf)))
 have hat := fun e => at_hasK (k := key) hinc e
 have hil : atS (keysV (pm.map Prod.fst)) key ≤ pm.length := by
  have := atS_le (keysV (pm.map Prod.fst)) key
  unfold keysV at this ⊢
  rwa [List.length_map, List.length_map] at this
 have hps : hasK (pm.map Prod.fst) key = true → PmOk w0 (pm.set (atS (keysV (pm.map Prod.fst)) key) (⟨key, x⟩, (ax, kx))) := fun _ p hp => by
  rcases set_mem hp with rfl | hp
  ·exact ⟨⟨hk, hx⟩, hsx⟩
  ·exact hpm p hp
 have hpi : PmOk w0 (insA pm (atS (keysV (pm.map Prod.fst)) key) (⟨key, x⟩, (ax, kx))) := fun p hp => by
  rcases insA_mem.1 hp with rfl | hp
  ·exact ⟨⟨hk, hx⟩, hsx⟩
  ·exact hpm p hp
 have hpd : PmOk w0 (delA pm (atS (keysV (pm.map Prod.fst)) key)) := fun p hp => hpm p (delA_mem hp)
 obtain ⟨R, hR⟩ : ∃ R, R = setE (pm.map Prod.fst) key x := ⟨_, rfl⟩
 obtain ⟨T, hT⟩ : ∃ T, T = F (setP (pm.map Prod.fst) key x) := ⟨_, rfl⟩
 rw [← hR, ← hT]
 unfold setE at hR
 unfold setP at hT
 rw [List.length_map] at hR
 have hst : hasK (pm.map Prod.fst) key = true → ∃ hl : atS (keysV (pm.map Prod.fst)) key < pm.length, pm[atS (keysV (pm.map Prod.fst)) key].1.k = key := fun e => by
  obtain ⟨hl, h2⟩ := hat e
  rw [List.length_map] at hl
  rw [List.getElem_map] at h2
  exact ⟨hl, h2⟩
 clear kf ka hat sp hinc
 obtain ⟨i, hi⟩ : ∃ i, i = atS (keysV (pm.map Prod.fst)) key := ⟨_, rfl⟩
 rw [← hi] at HFN hil hps hpi hpd hT hst
 generalize hasK (pm.map Prod.fst) key = q at *
 generalize isN x = z at *
 have HR := Lib.hid hR
 have HT := Lib.hid hT
 have HST := Lib.hid hst
 have HPS := Lib.hid hps
 have HPI := Lib.hid hpi
 have HPD := Lib.hid hpd
 have HMK := Lib.hid hmk
 have HSET := Lib.hid hset
 have HBW := Lib.hid bW
 have HFW := Lib.hid fW
 have HB := Lib.hid hb
 have HEV := Lib.hid ev
 have HBV := Lib.hid (fun k (e : v.ownBlock = some k) => hrow.lt k e)
 unfold rowP Rw.Own at hrow
 simp only [ev] at hrow
 have HROW := Lib.hid hrow
 have HPM := Lib.hid hpm
 rw [ev] at hc
 have HC := Lib.hid hc
 have c1 : W.cell? ⟨g, o, none⟩ = some (.slice ap pm.length cp) := cellOnw fW hc
 clear hR hT hst hps hpi hpd hmk hset bW fW hb ev hrow hpm hc hf0 hsx hx hi hk
 unfold vlv at *
 go_enter Tryz.func112, Tryz.ntmps112
 go_upto_region 1 with fail
 rw [← hW]
 clear hW
 go_wp2_with fail
 go_at_call 163; refine HFN.out.mono ?_; rintro e1 w1 ⟨rfl, f1⟩
 have HF1 := Lib.hid (HFW.out.trans f1)
 have b1 := HBW.out.on f1
 have c0 := b1.c 0; have c2 := b1.c 1; have c3 := b1.c 2; have c4 := b1.c 3; have c5 := b1.c 4
 have c6 : w1.cell? ⟨g, o, none⟩ = some (.slice ap pm.length cp) := cellOnw f1 c1
 have HB1 := Lib.hid b1
 clear c1 HFN f1 b1 HBW HFW
 cases q with
 | true =>
  have HE := Lib.hid (show R = 0 from HR.out.trans (if_neg (fun k => by cases k.1)))
  obtain ⟨hl, hkey⟩ := HST.out rfl
  have HCS := Lib.hid (show LP.cs (pm.set i (⟨key, x⟩, (ax, kx))) = set5 (LP.cs pm) (i * 6 + 1) x ax kx from (congrArg (fun s => LP.cs (pm.set i (⟨s, x⟩, (ax, kx)))) hkey).symm.trans (lp_set pm i x ax kx hl))
  have HL := Lib.hid hl
  rcases (HROW.out).form' with ⟨-, h0⟩ | ⟨gl, cl', e, hc1, hc2⟩
  ·omega
  cases e
  have hi5 : (i : Int) + 1 ≤ 9223372036854775807 := by unfold maxLen at hc2; omega
  clear hc1 hc2 hil hkey
  go_wp2_with fail
  go_at_call 26; refine (HNU.out _ HF1.out).mono ?_; rintro e2 w2 ⟨rfl, f2⟩
  have HF2 := Lib.hid (HF1.out.trans f2)
  have b2 := HB1.out.on f2
  have d0 := b2.c 0; have d1 := b2.c 1; have d2 := b2.c 2; have d3 := b2.c 3; have d4 := b2.c 4
  have d6 : w2.cell? ⟨g, o, none⟩ = some (.slice (some ⟨gl, 0, none⟩) pm.length cp) := cellOnw f2 c6
  clear c0 c2 c3 c4 c5 c6 f2 b2 HNU HB1
  have hob : (Value.slice (some ⟨gl, 0, none⟩) pm.length cp).ownBlock = some gl := rfl
  cases z with
  | true =>
   have HTT := Lib.hid (show T = F ((delA pm i).map Prod.fst) from by rw [HT.out, delA_map]; simp)
   have HIN := Lib.hid (show Calls Tryz.prog 165 #[.slice (some ⟨gl, 0, none⟩) pm.length cp, .int .i64 (i : Int), .int .i64 ((i : Int) + 1)] w2 (RetDel w2 base 48 6 gl cp (pm.length - 1) ((LP.cs pm).take (i * 6) ++ (LP.cs pm).drop ((i + 1) * 6))) from
    del_p (own_on HROW.out HF2.out) i hl (lp_one _))
   go_upto_region 4 with fail
   go_wp2_with fail
   go_at_call 165; refine HIN.out.mono ?_; rintro e3 w3 ⟨rfl, hown3, hgr3⟩
   rw [← hob, ← HEV.out] at hgr3
   obtain ⟨m0, z0, hbl, hgb⟩ := HSET.out w2 (.slice (some ⟨gl, 0, none⟩) (pm.length - 1) cp) (delA pm i) w3 HF2.out (by unfold rowP Rw.Own; simp only; rw [lp_del, show (delA pm i).length = pm.length - 1 by have := delA_len pm i HL.out; omega]; exact hown3) hgr3 (.inl (by rw [HEV.out]; rfl)) HPD.out
   rw [HEV.out] at m0
   have HFIN := Lib.hid (show RetEd w0 w base B xs R T (.returned (.int .i64 0)) (w3.setCell ⟨g, o, none⟩ (.slice (some ⟨gl, 0, none⟩) (pm.length - 1) cp)) from
    ⟨by rw [HE.out], ((below_of HF2.out HB.out).trans (below_grown hgr3 (by have := HF2.out.size; have := HB.out; omega) (fun k e => (HBV.out k e).1))).trans hbl, by have := HF2.out.size; have := hgr3.size; simp; omega, fun _ => ⟨_, hgb, (HMK.out _ _).trans HTT.out.symm, HXS.out _ _⟩⟩)
   clear hbl hgb hgr3 hown3 HIN d6 hob
   go_wp2
   go_ret
   exact HFIN.out
  | false =>
   have HTT := Lib.hid (show T = F ((pm.set i (⟨key, x⟩, (ax, kx))).map Prod.fst) from by rw [HT.out, List.map_set]; simp)
   have hrow2 := own_on HROW.out HF2.out
   obtain ⟨h5, g5⟩ := own_set5 (k := i * 6 + 1) (x := x) (a := ax) (c := kx) hrow2
   rw [← hob, ← HEV.out] at g5
   rw [← HCS.out] at h5
   obtain ⟨u1, u2, u3, u4, u5, ⟨m1, z1⟩, ⟨m2, z2⟩, ⟨m3, z3⟩, ⟨m4, z4⟩, m5, z5⟩ := row5 hrow2 hl
   obtain ⟨V, hV⟩ : ∃ V, V = (((((w2.setCell ⟨gl, i * 6 + 1, none⟩ (.int .i64 x.kd)).setCell ⟨gl, i * 6 + 1 + 1, none⟩ (.int .i64 x.nn)).setCell ⟨gl, i * 6 + 1 + 2, none⟩ (.int .i64 x.dd)).setCell ⟨gl, i * 6 + 1 + 3, none⟩ (.string (bs x.ss))).setCell ⟨gl, i * 6 + 1 + 4, none⟩ (.slice ax x.ll.length kx)) := ⟨_, rfl⟩
   rw [← hV] at h5 g5
   obtain ⟨m0, z0, hbl, hgb⟩ := HSET.out w2 v (pm.set i (⟨key, x⟩, (ax, kx))) V HF2.out (by unfold rowP Rw.Own; simp only; rw [HEV.out, List.length_set]; exact h5) g5 (.inl rfl) (HPS.out (by first | rfl | trivial))
   rw [setCell_id m0] at hgb
   have HFIN := Lib.hid (show RetEd w0 w base B xs R T (.returned (.int .i64 0)) V.drew from
    ⟨by rw [HE.out], Below.drew ((below_of HF2.out HB.out).trans (below_grown g5 (by have := HF2.out.size; have := HB.out; omega) (fun k e => (HBV.out k e).1))), by have := HF2.out.size; have := g5.size; simp; omega, fun _ => ⟨_, ⟨hgb.own.drew, hgb.box, hgb.far, hgb.hi⟩, (HMK.out _ _).trans HTT.out.symm, HXS.out _ _⟩⟩)
   have hl6 := hl
   clear hbl hgb g5 h5 hrow2 m0 z0 hob
   rw [hV] at HFIN
   clear hV
   go_upto_region 6 with fail
   go_region
   all_goals
    go_wp2
    go_ret
    exact HFIN.out
 | false =>
  go_upto_region 7 with fail
  go_wp2_with fail
  go_at_call 26; refine (HNU.out _ HF1.out).mono ?_; rintro e2 w2 ⟨rfl, f2⟩
  have HF2 := Lib.hid (HF1.out.trans f2)
  have b2 := HB1.out.on f2
  have d0 := b2.c 0; have d1 := b2.c 1; have d2 := b2.c 2; have d3 := b2.c 3; have d4 := b2.c 4
  have d6 : w2.cell? ⟨g, o, none⟩ = some (.slice ap pm.length cp) := cellOnw f2 c6
  have HB2 := Lib.hid b2
  clear c0 c2 c3 c4 c5 c6 f2 b2 HNU HB1
  cases z with
  | true =>
   have HE := Lib.hid (show R = 0 from HR.out.trans (if_neg (fun k => by cases k.2.1)))
   have HTT := Lib.hid (show T = F (pm.map Prod.fst) from by rw [HT.out]; simp)
   obtain ⟨m0, z0, hbl, hgb⟩ := HSET.out w2 v pm w2 HF2.out (by unfold rowP Rw.Own; simp only; rw [HEV.out]; exact own_on HROW.out HF2.out) (grown_refl _ _) (.inl rfl) HPM.out
   rw [setCell_id m0] at hgb
   have HFIN := Lib.hid (show RetEd w0 w base B xs R T (.returned (.int .i64 0)) w2 from
    ⟨by rw [HE.out], below_of HF2.out HB.out, HF2.out.size, fun _ => ⟨_, hgb, (HMK.out _ _).trans HTT.out.symm, HXS.out _ _⟩⟩)
   clear m0 z0 hbl hgb
   go_wp2
   go_ret
   exact HFIN.out
  | false =>
   by_cases hfull : 16 ≤ pm.length
   ·have hq : ((pm.length : Int) == 16) = true := by rw [beq_iff_eq]; omega
    have HE := Lib.hid (show R = 20 from by rw [HR.out]; simp [hfull])
    go_wp2
    go_ret
    exact ⟨ret_int HE.out.symm, below_of HF2.out HB.out, HF2.out.size, fun e => by rw [HE.out] at e; cases e⟩
   ·have hq : ((pm.length : Int) == 16) = false := by rw [beq_eq_false_iff_ne]; omega
    have HE := Lib.hid (show R = 0 from by rw [HR.out]; simp [hfull])
    have HTT := Lib.hid (show T = F ((insA pm i (⟨key, x⟩, (ax, kx))).map Prod.fst) from by rw [HT.out, insA_map]; simp)
    have hsz := HF2.out.size
    have HIN := Lib.hid (show Calls Tryz.prog 166 #[.slice ap pm.length cp, .int .i64 (i : Int), .slice (some ⟨w2.heap.size, 0, none⟩) 1 1] (w2.drew.alloc (.cells #[.string (bs key), .int .i64 x.kd, .int .i64 x.nn, .int .i64 x.dd, .string (bs x.ss), .slice ax x.ll.length kx] 48)) (RetIns (w2.drew.alloc (.cells #[.string (bs key), .int .i64 x.kd, .int .i64 x.nn, .int .i64 x.dd, .string (bs x.ss), .slice ax x.ll.length kx] 48)) base 48 6 (.slice ap pm.length cp) (pm.length + 1) ((LP.cs pm).take (i * 6) ++ [.string (bs key), .int .i64 x.kd, .int .i64 x.nn, .int .i64 x.dd, .string (bs x.ss), .slice ax x.ll.length kx] ++ (LP.cs pm).drop (i * 6))) from
     ins_p (own_on HROW.out (HF2.out.trans ((Fuw.drew (Fuw.refl _)).alloc _))) i hil (by omega) (by have := HB.out; simp; omega) (Bk.new w2.drew _ _) rfl (fun e => by have := (HBV.out _ (by rw [HEV.out]; exact e)).2; omega) (lp_one _) (by intro u hu; simp at hu; rcases hu with rfl | rfl | rfl | rfl | rfl | rfl <;> rfl))
    have HFA := Lib.hid (show Fuw w (w2.drew.alloc (.cells #[.string (bs key), .int .i64 x.kd, .int .i64 x.nn, .int .i64 x.dd, .string (bs x.ss), .slice ax x.ll.length kx] 48)) from HF2.out.trans ((Fuw.drew (Fuw.refl _)).alloc _))
    have lg : g < w2.heap.size := cell_lt' d6
    have lw : w.heap.size < w2.heap.size := HB2.out.lt
    clear hfull hil
    go_upto_region 2 with fail
    go_region_with (first
     | (go_at_call 166; refine HIN.out.mono ?_; rintro e3 w3 ⟨v3, rfl, hown3, hgr3, hat3⟩; obtain ⟨g3, k3, rfl, -⟩ := hown3.form (by omega); rw [← HEV.out] at hgr3 hat3; obtain ⟨m0, z0, hbl, hgb⟩ := HSET.out _ (.slice (some ⟨g3, 0, none⟩) (pm.length + 1) k3) (insA pm i (⟨key, x⟩, (ax, kx))) w3 HFA.out (by unfold rowP Rw.Own; simp only; rw [lp_ins, insA_len]; exact hown3) hgr3 hat3 HPI.out; rw [HEV.out] at m0))
    all_goals
     have HFIN := Lib.hid (show RetEd w0 w base B xs R T (.returned (.int .i64 0)) (w3.setCell ⟨g, o, none⟩ (.slice (some ⟨g3, 0, none⟩) (pm.length + 1) k3)) from
      ⟨by rw [HE.out], ((below_of HFA.out HB.out).trans (below_grown hgr3 (by have := HFA.out.size; have := HB.out; omega) (fun k e => (HBV.out k e).1))).trans hbl, by have := HFA.out.size; have := hgr3.size; simp at *; omega, fun _ => ⟨_, hgb, (HMK.out _ _).trans HTT.out.symm, HXS.out _ _⟩⟩)
     clear hbl hgb hgr3 hown3 HIN d6 hat3
     go_wp2
     go_ret
     exact HFIN.out
end Go.Proofs.YtpamdlkagmlahaaGreatDoor
