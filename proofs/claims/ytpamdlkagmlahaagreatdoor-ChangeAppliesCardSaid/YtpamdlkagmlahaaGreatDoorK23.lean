/-
  CiF; CiG; CiA; ChY: texts of one kind in one file; each part says what it holds.
-/
import Derived.Test.YtpamdlkagmlahaaGreatDoorK22
import Derived.Test.YtpamdlkagmlahaaGreatDoorK15

namespace Go.Proofs.YtpamdlkagmlahaaGreatDoor
open Go.RowKit
set_option maxHeartbeats 3200000 in
set_option maxRecDepth 100000 in
theorem hasno_raw (op id fr tt : Int) (nm : List UInt8) (x : Vl) (a : Option Addr) (k : Nat) (s : ByteArray) (e n v : Bool) (w : World) (hx : Vin x) (hs : SlV w a x.ll k) :
  Calls Tryz.prog 24 #[.agg #[.int .i64 op, .int .i64 id, .int .i64 fr, .int .i64 tt, .string (bs nm), .int .i64 x.kd, .int .i64 x.nn, .int .i64 x.dd, .string (bs x.ss), .slice a x.ll.length k], .agg #[.string s, .bool e, .bool n, .bool v]] w (FwB w ((e || (decide (fr = 0) && decide (tt = 0))) && (n || nm.isEmpty) && (v || isN x))) := by
 have HF := Lib.hid ((fuwA w (.cells #[.int .i64 op, .int .i64 id, .int .i64 fr, .int .i64 tt, .string (bs nm), .int .i64 x.kd, .int .i64 x.nn, .int .i64 x.dd, .string (bs x.ss), .slice a x.ll.length k] 30)).trans (fuwA _ (.cells #[.string s, .bool e, .bool n, .bool v] 59)))
 have HN := Lib.hid (fun (w' : World) (hf : Fuw w w') => isnull_any x a k w' hx (hs.onw hf))
 unfold vlv at HN
 have y1 : ((bs nm).toList == []) = nm.isEmpty := by rw [bs_list]; cases nm <;> rfl
 have y3 : (bs nm).toList.isEmpty = nm.isEmpty := by rw [bs_list]
 generalize isN x = z at *
 generalize nm.isEmpty = em at *
 clear hx hs
 cases e with
 | true =>
  cases n with
  | true =>
   cases v with
   | true =>
    go_enter Tryz.func24, Tryz.ntmps24
    go_wp2
    go_ret
    exact ⟨ret_bool (by simp), HF.out⟩
   | false =>
    go_enter Tryz.func24, Tryz.ntmps24
    go_wp2_with fail
    go_at_call 26; refine (HN.out _ HF.out).mono ?_; rintro e1 w1 ⟨rfl, f1⟩
    have HF1 := Lib.hid (HF.out.trans f1)
    clear f1
    go_wp2
    go_ret
    exact ⟨ret_bool (by cases z <;> rfl), HF1.out⟩
  | false =>
   cases em with
   | false =>
    go_enter Tryz.func24, Tryz.ntmps24
    go_wp2
    go_ret
    exact ⟨ret_bool (by simp), HF.out⟩
   | true =>
    cases v with
    | true =>
     go_enter Tryz.func24, Tryz.ntmps24
     go_wp2
     go_ret
     exact ⟨ret_bool (by simp), HF.out⟩
    | false =>
     go_enter Tryz.func24, Tryz.ntmps24
     go_wp2_with fail
     go_at_call 26; refine (HN.out _ HF.out).mono ?_; rintro e1 w1 ⟨rfl, f1⟩
     have HF1 := Lib.hid (HF.out.trans f1)
     clear f1
     go_wp2
     go_ret
     exact ⟨ret_bool (by cases z <;> rfl), HF1.out⟩
 | false =>
  by_cases h1 : fr = 0
  ·subst h1
   by_cases h2 : tt = 0
   ·subst h2
    cases n with
    | true =>
     cases v with
     | true =>
      go_enter Tryz.func24, Tryz.ntmps24
      go_wp2
      go_ret
      exact ⟨ret_bool (by simp), HF.out⟩
     | false =>
      go_enter Tryz.func24, Tryz.ntmps24
      go_wp2_with fail
      go_at_call 26; refine (HN.out _ HF.out).mono ?_; rintro e1 w1 ⟨rfl, f1⟩
      have HF1 := Lib.hid (HF.out.trans f1)
      clear f1
      go_wp2
      go_ret
      exact ⟨ret_bool (by cases z <;> rfl), HF1.out⟩
    | false =>
     cases em with
     | false =>
      go_enter Tryz.func24, Tryz.ntmps24
      go_wp2
      go_ret
      exact ⟨ret_bool (by simp), HF.out⟩
     | true =>
      cases v with
      | true =>
       go_enter Tryz.func24, Tryz.ntmps24
       go_wp2
       go_ret
       exact ⟨ret_bool (by simp), HF.out⟩
      | false =>
       go_enter Tryz.func24, Tryz.ntmps24
       go_wp2_with fail
       go_at_call 26; refine (HN.out _ HF.out).mono ?_; rintro e1 w1 ⟨rfl, f1⟩
       have HF1 := Lib.hid (HF.out.trans f1)
       clear f1
       go_wp2
       go_ret
       exact ⟨ret_bool (by cases z <;> rfl), HF1.out⟩
   ·have h3 : (tt == 0) = false := by rw [beq_eq_false_iff_ne]; exact h2
    go_enter Tryz.func24, Tryz.ntmps24
    go_wp2
    go_ret
    exact ⟨ret_bool (by simp [h2]), HF.out⟩
  ·have h3 : (fr == 0) = false := by rw [beq_eq_false_iff_ne]; exact h1
   go_enter Tryz.func24, Tryz.ntmps24
   go_wp2
   go_ret
   exact ⟨ret_bool (by simp [h1]), HF.out⟩
theorem hasno_any (c : Ch) (a : Option Addr) (k : Nat) (w : World) (hx : Vin c.v) (hs : SlV w a c.v.ll k) : Calls Tryz.prog 24 #[.agg (chC c a k), .agg (shpC c.op)] w (FwB w (zeroC c)) :=
 hasno_raw c.op c.id c.fr c.tt c.nm c.v a k (bs (wrdC c.op)) (decide (c.op = 6)) (nmd c.op) (vld c.op) w hx hs
end Go.Proofs.YtpamdlkagmlahaaGreatDoor

namespace Go.Proofs.YtpamdlkagmlahaaGreatDoor
open Go.RowKit
theorem chkC_of {c : Ch} {o q z n nv zn pl : Bool} (h1 : o = opV c.op) (h2 : q = idsC c) (h3 : z = zeroC c) (h4 : n = nmd c.op) (h5 : nv = nameV c.nm) (h6 : zn = isN c.v) (h7 : pl = plnV c.v) :
  chkC c = if (o && q && z) = false then 1 else if (n && !nv) = true then 6 else if (!zn && !pl) = true then 8 else 0 := by
 subst h1 h2 h3 h4 h5 h6 h7; rfl
set_option maxHeartbeats 6400000 in
set_option maxRecDepth 100000 in
theorem lchk_any (c : Ch) (a : Option Addr) (k : Nat) (w : World) (h : ChIn w c a k) : Calls Tryz.prog 9 #[.agg (chC c a k)] w (FwI w (chkC c)) := by
 obtain ⟨W, hW⟩ : ∃ W, W = w.alloc (.cells (chC c a k) 30) := ⟨_, rfl⟩
 have fW : Fuw w W := by rw [hW]; exact fuwA _ _
 have bW : Bk W w.heap.size (chC c a k) 30 := by rw [hW]; exact Bk.new _ _ _
 have HID := Lib.hid (fun (w' : World) => hasids_any c a k w')
 have HNO := Lib.hid (fun (w' : World) (hf : Fuw w w') => hasno_any c a k w' h.v (h.s.onw hf))
 have HNM := Lib.hid (fun (w' : World) => show Calls Tryz.prog 25 #[.string (bs c.nm)] w' (PureB w' (nameV c.nm)) from by
  have := name_any (bs c.nm) w' (by rw [bs_size]; exact h.n)
  rwa [bs_data] at this)
 have HNU := Lib.hid (fun (w' : World) (hf : Fuw w w') => isnull_any c.v a k w' h.v (h.s.onw hf))
 have HPL := Lib.hid (fun (w' : World) (hf : Fuw w w') => lplain_any c.v a k w' h.v (h.s.onw hf))
 have HSH := Lib.hid (shape_any c.op W)
 obtain ⟨R, hR⟩ : ∃ R, R = chkC c := ⟨_, rfl⟩
 have hR2 := chkC_of (c := c) rfl rfl rfl rfl rfl rfl rfl
 rw [← hR] at hR2 ⊢
 have HBW := Lib.hid bW
 have HFW := Lib.hid fW
 have d0 := bW.c 0
 unfold vlv at HNU HPL
 unfold RetSh at HSH
 unfold chC shpC at *
 clear hR
 generalize idsC c = q at *
 generalize zeroC c = z at *
 generalize nameV c.nm = nv at *
 generalize isN c.v = zn at *
 generalize plnV c.v = pl at *
 generalize opV c.op = o at *
 generalize decide (c.op = 6) = ue at *
 generalize nmd c.op = n at *
 generalize vld c.op = v at *
 generalize bs (wrdC c.op) = s at *
 have HR := Lib.hid hR2
 clear hR2 h bW fW
 go_enter Tryz.func9, Tryz.ntmps9
 go_upto_region 1 with fail
 rw [← hW]
 clear hW
 go_wp2_with fail
 go_at_call 22; refine HSH.out.mono ?_; rintro e1 w1 ⟨rfl, f1⟩
 have HF1 := Lib.hid (HFW.out.trans f1)
 have HB1 := Lib.hid (HBW.out.on f1)
 clear HSH HFW HBW f1 d0
 go_upto_region 2 with fail
 obtain ⟨V, hV⟩ : ∃ V, V = w1.alloc (.cells #[.string s, .bool ue, .bool n, .bool v] 59) := ⟨_, rfl⟩
 have HF2 := Lib.hid (show Fuw w V from by rw [hV]; exact HF1.out.trans (fuwA _ _))
 have HB2 := Lib.hid (show Bk V w.heap.size _ 30 from HB1.out.on (by rw [hV]; exact fuwA _ _))
 have HS2 := Lib.hid (show Bk V w1.heap.size #[.string s, .bool ue, .bool n, .bool v] 59 from by rw [hV]; exact Bk.new _ _ _)
 first | rw [← hV] | skip
 clear hV HF1 HB1
 have c0 := (HB2.out).c 0
 have c1 := (HB2.out).c 1
 have c2 := (HB2.out).c 2
 have c3 := (HB2.out).c 3
 have c4 := (HB2.out).c 4
 have c5 := (HB2.out).c 5
 have c6 := (HB2.out).c 6
 have c7 := (HB2.out).c 7
 have c8 := (HB2.out).c 8
 have c9 := (HB2.out).c 9
 have s0 := (HS2.out).c 0
 have s1 := (HS2.out).c 1
 have s2 := (HS2.out).c 2
 have s3 := (HS2.out).c 3
 cases o with
 | false =>
  have HE := Lib.hid (show R = 1 from HR.out.trans (if_pos (by simp)))
  go_wp2
  go_ret
  exact ⟨ret_int HE.out.symm, HF2.out⟩
 | true =>
  go_wp2_with fail
  go_at_call 23; refine (HID.out _).mono ?_; rintro e3 w3 ⟨rfl, f3⟩
  have HF3 := Lib.hid (HF2.out.trans f3)
  have HB3 := Lib.hid (HB2.out.on f3)
  have HS3 := Lib.hid (HS2.out.on f3)
  clear c0 c1 c2 c3 c4 c5 c6 c7 c8 c9 s0 s1 s2 s3
  clear f3 HF2 HB2 HS2 HID
  have c0 := (HB3.out).c 0
  have c1 := (HB3.out).c 1
  have c2 := (HB3.out).c 2
  have c3 := (HB3.out).c 3
  have c4 := (HB3.out).c 4
  have c5 := (HB3.out).c 5
  have c6 := (HB3.out).c 6
  have c7 := (HB3.out).c 7
  have c8 := (HB3.out).c 8
  have c9 := (HB3.out).c 9
  have s0 := (HS3.out).c 0
  have s1 := (HS3.out).c 1
  have s2 := (HS3.out).c 2
  have s3 := (HS3.out).c 3
  cases q with
  | false =>
   have HE := Lib.hid (show R = 1 from HR.out.trans (if_pos (by simp)))
   go_wp2
   go_ret
   exact ⟨ret_int HE.out.symm, HF3.out⟩
  | true =>
   go_wp2_with fail
   go_at_call 24; refine (HNO.out _ HF3.out).mono ?_; rintro e4 w4 ⟨rfl, f4⟩
   have HF4 := Lib.hid (HF3.out.trans f4)
   have HB4 := Lib.hid (HB3.out.on f4)
   have HS4 := Lib.hid (HS3.out.on f4)
   clear c0 c1 c2 c3 c4 c5 c6 c7 c8 c9 s0 s1 s2 s3
   clear f4 HF3 HB3 HS3 HNO
   have c0 := (HB4.out).c 0
   have c1 := (HB4.out).c 1
   have c2 := (HB4.out).c 2
   have c3 := (HB4.out).c 3
   have c4 := (HB4.out).c 4
   have c5 := (HB4.out).c 5
   have c6 := (HB4.out).c 6
   have c7 := (HB4.out).c 7
   have c8 := (HB4.out).c 8
   have c9 := (HB4.out).c 9
   have s0 := (HS4.out).c 0
   have s1 := (HS4.out).c 1
   have s2 := (HS4.out).c 2
   have s3 := (HS4.out).c 3
   cases z with
   | false =>
    have HE := Lib.hid (show R = 1 from HR.out.trans (if_pos (by simp)))
    go_wp2
    go_ret
    exact ⟨ret_int HE.out.symm, HF4.out⟩
   | true =>
    have HR2 := Lib.hid (show R = if (n && !nv) = true then 6 else if (!zn && !pl) = true then 8 else 0 from HR.out.trans (if_neg (by simp)))
    clear HR
    cases n with
    | false =>
     have HR3 := Lib.hid (show R = if (!zn && !pl) = true then 8 else 0 from HR2.out.trans (if_neg (by simp)))
     clear HR2
     go_wp2_with fail
     go_at_call 26; refine (HNU.out _ HF4.out).mono ?_; rintro e5 w5 ⟨rfl, f5⟩
     have HF5 := Lib.hid (HF4.out.trans f5)
     have HB5 := Lib.hid (HB4.out.on f5)
     have HS5 := Lib.hid (HS4.out.on f5)
     clear c0 c1 c2 c3 c4 c5 c6 c7 c8 c9 s0 s1 s2 s3
     clear f5 HNU HF4 HB4 HS4
     have c0 := (HB5.out).c 0
     have c1 := (HB5.out).c 1
     have c2 := (HB5.out).c 2
     have c3 := (HB5.out).c 3
     have c4 := (HB5.out).c 4
     have c5 := (HB5.out).c 5
     have c6 := (HB5.out).c 6
     have c7 := (HB5.out).c 7
     have c8 := (HB5.out).c 8
     have c9 := (HB5.out).c 9
     have s0 := (HS5.out).c 0
     have s1 := (HS5.out).c 1
     have s2 := (HS5.out).c 2
     have s3 := (HS5.out).c 3
     cases zn with
     | true =>
      have HE := Lib.hid (show R = 0 from HR3.out.trans (if_neg (by simp)))
      go_wp2
      go_ret
      exact ⟨ret_int HE.out.symm, HF5.out⟩
     | false =>
      go_wp2_with fail
      go_at_call 27; refine (HPL.out _ HF5.out).mono ?_; rintro e6 w6 ⟨rfl, f6⟩
      have HF6 := Lib.hid (HF5.out.trans f6)
      clear c0 c1 c2 c3 c4 c5 c6 c7 c8 c9 s0 s1 s2 s3
      clear f6 HPL HF5 HB5 HS5
      cases pl with
      | true =>
       have HE := Lib.hid (show R = 0 from HR3.out.trans (if_neg (by simp)))
       go_wp2
       go_ret
       exact ⟨ret_int HE.out.symm, HF6.out⟩
      | false =>
       have HE := Lib.hid (show R = 8 from HR3.out.trans (if_pos (by simp)))
       go_wp2
       go_ret
       exact ⟨ret_int HE.out.symm, HF6.out⟩
    | true =>
     go_wp2_with fail
     go_at_call 25; refine (HNM.out _).mono ?_; rintro e7 w7 ⟨rfl, rfl⟩
     cases nv with
     | false =>
      have HE := Lib.hid (show R = 6 from HR2.out.trans (if_pos (by simp)))
      go_wp2
      go_ret
      exact ⟨ret_int HE.out.symm, HF4.out⟩
     | true =>
      have HR3 := Lib.hid (show R = if (!zn && !pl) = true then 8 else 0 from HR2.out.trans (if_neg (by simp)))
      clear HR2
      go_wp2_with fail
      go_at_call 26; refine (HNU.out _ HF4.out).mono ?_; rintro e5 w5 ⟨rfl, f5⟩
      have HF5 := Lib.hid (HF4.out.trans f5)
      have HB5 := Lib.hid (HB4.out.on f5)
      have HS5 := Lib.hid (HS4.out.on f5)
      clear c0 c1 c2 c3 c4 c5 c6 c7 c8 c9 s0 s1 s2 s3
      clear f5 HNU HF4 HB4 HS4
      have c0 := (HB5.out).c 0
      have c1 := (HB5.out).c 1
      have c2 := (HB5.out).c 2
      have c3 := (HB5.out).c 3
      have c4 := (HB5.out).c 4
      have c5 := (HB5.out).c 5
      have c6 := (HB5.out).c 6
      have c7 := (HB5.out).c 7
      have c8 := (HB5.out).c 8
      have c9 := (HB5.out).c 9
      have s0 := (HS5.out).c 0
      have s1 := (HS5.out).c 1
      have s2 := (HS5.out).c 2
      have s3 := (HS5.out).c 3
      cases zn with
      | true =>
       have HE := Lib.hid (show R = 0 from HR3.out.trans (if_neg (by simp)))
       go_wp2
       go_ret
       exact ⟨ret_int HE.out.symm, HF5.out⟩
      | false =>
       go_wp2_with fail
       go_at_call 27; refine (HPL.out _ HF5.out).mono ?_; rintro e6 w6 ⟨rfl, f6⟩
       have HF6 := Lib.hid (HF5.out.trans f6)
       clear c0 c1 c2 c3 c4 c5 c6 c7 c8 c9 s0 s1 s2 s3
       clear f6 HPL HF5 HB5 HS5
       cases pl with
       | true =>
        have HE := Lib.hid (show R = 0 from HR3.out.trans (if_neg (by simp)))
        go_wp2
        go_ret
        exact ⟨ret_int HE.out.symm, HF6.out⟩
       | false =>
        have HE := Lib.hid (show R = 8 from HR3.out.trans (if_pos (by simp)))
        go_wp2
        go_ret
        exact ⟨ret_int HE.out.symm, HF6.out⟩
end Go.Proofs.YtpamdlkagmlahaaGreatDoor

namespace Go.Proofs.YtpamdlkagmlahaaGreatDoor
theorem ris_incS : ∀ (l : List (List UInt8)), risV l = true ↔ incS l
 | [] => ⟨fun _ => List.Pairwise.nil, fun _ => rfl⟩
 | [a] => ⟨fun _ => List.pairwise_singleton _ _, fun _ => rfl⟩
 | a :: b :: r => by
  have ih := ris_incS (b :: r)
  show ((Op.bytesLess a b) && risV (b :: r)) = true ↔ incS (a :: b :: r)
  rw [Bool.and_eq_true, ih]
  unfold incS
  constructor
  ·rintro ⟨h1, h2⟩
   refine List.pairwise_cons.2 ⟨fun y hy => ?_, h2⟩
   rcases List.mem_cons.1 hy with rfl | hy
   ·exact h1
   ·exact bl_trans h1 ((List.pairwise_cons.1 h2).1 y hy)
  ·intro h
   have h' := List.pairwise_cons.1 h
   exact ⟨h'.1 b (List.mem_cons_self ..), h'.2⟩
structure Par (ls : List (List UInt8)) (ps : List Pp) : Prop where
 l8 : ls.length ≤ 8
 p16 : ps.length ≤ 16
 ln : ∀ s ∈ ls, nameV s = true
 kn : ∀ p ∈ ps, nameV p.k = true
 li : incS ls
 ki : incS (keysV ps)
 pv : ∀ p ∈ ps, plnV p.v = true
theorem par_iff (ls : List (List UInt8)) (ps : List Pp) : parV ls ps = 0 ↔ Par ls ps := by
 unfold parV
 constructor
 ·intro h
  by_cases h1 : 8 < ls.length ∨ 16 < ps.length
  ·rw [if_pos h1] at h; cases h
  ·rw [if_neg h1] at h
   by_cases h2 : (ls.all nameV && (keysV ps).all nameV) = false
   ·rw [if_pos h2] at h; cases h
   ·rw [if_neg h2] at h
    by_cases h3 : (risV ls && risV (keysV ps)) = false
    ·rw [if_pos h3] at h; cases h
    ·rw [if_neg h3] at h
     by_cases h4 : ps.all (fun p => plnV p.v) = false
     ·rw [if_pos h4] at h; cases h
     ·simp only [Bool.not_eq_false, Bool.and_eq_true, List.all_eq_true] at h2 h3 h4
      exact ⟨by omega, by omega, h2.1, fun p hp => h2.2 _ (List.mem_map.2 ⟨p, hp, rfl⟩), (ris_incS _).1 h3.1, (ris_incS _).1 h3.2, h4⟩
 ·intro h
  rw [if_neg (by have := h.l8; have := h.p16; omega), if_neg, if_neg, if_neg]
  ·simp only [Bool.not_eq_false, List.all_eq_true]; exact h.pv
  ·simp only [Bool.not_eq_false, Bool.and_eq_true]; exact ⟨(ris_incS _).2 h.li, (ris_incS _).2 h.ki⟩
  ·simp only [Bool.not_eq_false, Bool.and_eq_true, List.all_eq_true]
   refine ⟨h.ln, fun k hk => ?_⟩
   obtain ⟨p, hp, rfl⟩ := List.mem_map.1 hk
   exact h.kn p hp
structure NdF (nn : Int) (n : Nd) : Prop where
 lo : 1 ≤ n.id
 hi : n.id < nn
 p : Par n.ls n.ps
structure EdF (ns : List Nd) (ne : Int) (e : Ed) : Prop where
 lo : 1 ≤ e.id
 hi : e.id < ne
 f : hasN ns e.fr = true
 t : hasN ns e.to = true
 y : nameV e.ty = true
 p : Par [] e.ps
theorem nd_iff (nn : Int) (prev : Option Int) (n : Nd) : ndV nn prev n = 0 ↔ badP prev n.id = false ∧ NdF nn n := by
 unfold ndV
 constructor
 ·intro h
  by_cases h1 : badP prev n.id = true
  ·rw [if_pos h1] at h; cases h
  ·rw [if_neg h1] at h
   by_cases h2 : n.id < 1 ∨ nn ≤ n.id
   ·rw [if_pos h2] at h; cases h
   ·rw [if_neg h2] at h
    exact ⟨by simpa using h1, by omega, by omega, (par_iff _ _).1 h⟩
 ·rintro ⟨h1, h2⟩
  rw [if_neg (by rw [h1]; decide), if_neg (by have := h2.lo; have := h2.hi; omega)]
  exact (par_iff _ _).2 h2.p
theorem ed_iff (ns : List Nd) (ne : Int) (prev : Option Int) (e : Ed) : edV ns ne prev e = 0 ↔ badP prev e.id = false ∧ EdF ns ne e := by
 unfold edV
 constructor
 ·intro h
  by_cases h1 : badP prev e.id = true
  ·rw [if_pos h1] at h; cases h
  ·rw [if_neg h1] at h
   by_cases h2 : e.id < 1 ∨ ne ≤ e.id
   ·rw [if_pos h2] at h; cases h
   ·rw [if_neg h2] at h
    by_cases h3 : (hasN ns e.fr && hasN ns e.to) = false
    ·rw [if_pos h3] at h; cases h
    ·rw [if_neg h3] at h
     by_cases h4 : nameV e.ty = false
     ·rw [if_pos h4] at h; cases h
     ·rw [if_neg h4] at h
      simp only [Bool.not_eq_false, Bool.and_eq_true] at h3 h4
      exact ⟨by simpa using h1, by omega, by omega, h3.1, h3.2, h4, (par_iff _ _).1 h⟩
 ·rintro ⟨h1, h2⟩
  rw [if_neg (by rw [h1]; decide), if_neg (by have := h2.lo; have := h2.hi; omega), if_neg (by rw [h2.f, h2.t]; decide), if_neg (by rw [h2.y]; decide)]
  exact (par_iff _ _).2 h2.p
theorem bad_iff (prev : Option Int) (x : Int) : badP prev x = false ↔ ∀ p, prev = some p → p < x := by
 unfold badP
 cases prev with
 | none => exact ⟨(fun _ p h => by cases h), fun _ => rfl⟩
 | some q =>
  simp only [decide_eq_false_iff_not]
  constructor
  ·intro h p hp
   injection hp with hp
   omega
  ·intro h
   have := h q rfl
   omega
theorem ns_iff (nn : Int) : ∀ (l : List Nd) (prev : Option Int), nsV nn prev l = 0 ↔ (l.Pairwise fun a b => a.id < b.id) ∧ (∀ n ∈ l, (∀ p, prev = some p → p < n.id) ∧ NdF nn n)
 | [], prev => ⟨fun _ => ⟨List.Pairwise.nil, fun _ h => by cases h⟩, fun _ => rfl⟩
 | n :: r, prev => by
  have ih := ns_iff nn r (some n.id)
  show (if ndV nn prev n = 0 then nsV nn (some n.id) r else ndV nn prev n) = 0 ↔ _
  constructor
  ·intro h
   by_cases e : ndV nn prev n = 0
   ·rw [if_pos e] at h
    obtain ⟨k1, k2⟩ := ih.1 h
    obtain ⟨e1, e2⟩ := (nd_iff _ _ _).1 e
    have e3 := (bad_iff _ _).1 e1
    refine ⟨List.pairwise_cons.2 ⟨fun m hm => (k2 m hm).1 _ rfl, k1⟩, fun m hm => ?_⟩
    rcases List.mem_cons.1 hm with rfl | hm
    ·exact ⟨e3, e2⟩
    ·exact ⟨fun p hp => by have := e3 p hp; have := (k2 m hm).1 _ rfl; omega, (k2 m hm).2⟩
   ·rw [if_neg e] at h; exact absurd h e
  ·rintro ⟨h1, h2⟩
   have h1' := List.pairwise_cons.1 h1
   have h0 := h2 n (List.mem_cons_self ..)
   rw [if_pos ((nd_iff _ _ _).2 ⟨(bad_iff _ _).2 h0.1, h0.2⟩)]
   refine ih.2 ⟨h1'.2, fun m hm => ⟨fun p hp => ?_, (h2 m (List.mem_cons_of_mem _ hm)).2⟩⟩
   injection hp with hp
   rw [← hp]
   exact h1'.1 m hm
theorem es_iff (ns : List Nd) (ne : Int) : ∀ (l : List Ed) (prev : Option Int), esV ns ne prev l = 0 ↔ (l.Pairwise fun a b => a.id < b.id) ∧ (∀ n ∈ l, (∀ p, prev = some p → p < n.id) ∧ EdF ns ne n)
 | [], prev => ⟨fun _ => ⟨List.Pairwise.nil, fun _ h => by cases h⟩, fun _ => rfl⟩
 | n :: r, prev => by
  have ih := es_iff ns ne r (some n.id)
  show (if edV ns ne prev n = 0 then esV ns ne (some n.id) r else edV ns ne prev n) = 0 ↔ _
  constructor
  ·intro h
   by_cases e : edV ns ne prev n = 0
   ·rw [if_pos e] at h
    obtain ⟨k1, k2⟩ := ih.1 h
    obtain ⟨e1, e2⟩ := (ed_iff _ _ _ _).1 e
    have e3 := (bad_iff _ _).1 e1
    refine ⟨List.pairwise_cons.2 ⟨fun m hm => (k2 m hm).1 _ rfl, k1⟩, fun m hm => ?_⟩
    rcases List.mem_cons.1 hm with rfl | hm
    ·exact ⟨e3, e2⟩
    ·exact ⟨fun p hp => by have := e3 p hp; have := (k2 m hm).1 _ rfl; omega, (k2 m hm).2⟩
   ·rw [if_neg e] at h; exact absurd h e
  ·rintro ⟨h1, h2⟩
   have h1' := List.pairwise_cons.1 h1
   have h0 := h2 n (List.mem_cons_self ..)
   rw [if_pos ((ed_iff _ _ _ _).2 ⟨(bad_iff _ _).2 h0.1, h0.2⟩)]
   refine ih.2 ⟨h1'.2, fun m hm => ⟨fun p hp => ?_, (h2 m (List.mem_cons_of_mem _ hm)).2⟩⟩
   injection hp with hp
   rw [← hp]
   exact h1'.1 m hm
structure Fine (g : Gr) : Prop where
 n : g.ns.length ≤ 2000
 e : g.es.length ≤ 4000
 nn : 1 ≤ g.nn ∧ g.nn ≤ 1000001
 ne : 1 ≤ g.ne ∧ g.ne ≤ 1000001
 pn : g.ns.Pairwise (fun a b => a.id < b.id)
 nf : ∀ n ∈ g.ns, NdF g.nn n
 pe : g.es.Pairwise (fun a b => a.id < b.id)
 ef : ∀ e ∈ g.es, EdF g.ns g.ne e
theorem fine_iff (g : Gr) : chkV g = 0 ↔ Fine g := by
 unfold chkV
 constructor
 ·intro h
  by_cases h1 : sizV g = false
  ·rw [if_pos h1] at h; cases h
  ·rw [if_neg h1] at h
   by_cases h2 : (nxtV g.nn && nxtV g.ne) = false
   ·rw [if_pos h2] at h; cases h
   ·rw [if_neg h2] at h
    by_cases h3 : nsV g.nn none g.ns = 0
    ·rw [if_pos h3] at h
     obtain ⟨k1, k2⟩ := (ns_iff _ _ _).1 h3
     obtain ⟨l1, l2⟩ := (es_iff _ _ _ _).1 h
     unfold sizV at h1
     unfold nxtV at h2
     simp only [Bool.not_eq_false, Bool.and_eq_true, decide_eq_true_eq] at h1 h2
     exact ⟨h1.1, h1.2, h2.1, h2.2, k1, fun n hn => (k2 n hn).2, l1, fun n hn => (l2 n hn).2⟩
    ·rw [if_neg h3] at h; exact absurd h h3
 ·intro h
  have h1 : sizV g = true := by unfold sizV; simp only [Bool.and_eq_true, decide_eq_true_eq]; exact ⟨h.n, h.e⟩
  have h2 : (nxtV g.nn && nxtV g.ne) = true := by unfold nxtV; simp only [Bool.and_eq_true, decide_eq_true_eq]; exact ⟨h.nn, h.ne⟩
  have h3 : nsV g.nn none g.ns = 0 := (ns_iff _ _ _).2 ⟨h.pn, fun n hn => ⟨(fun p hp => by cases hp), h.nf n hn⟩⟩
  rw [if_neg (by rw [h1]; decide), if_neg (by rw [h2]; decide), if_pos h3]
  exact (es_iff _ _ _ _).2 ⟨h.pe, fun n hn => ⟨(fun p hp => by cases hp), h.ef n hn⟩⟩
theorem atI_at {l : List Int} {x : Int} (h : l.Pairwise (· < ·)) (hx : x ∈ l) : l[atI l x]? = some x := by
 induction l with
 | nil => cases hx
 | cons y r ih =>
  have h' := List.pairwise_cons.1 h
  unfold atI
  by_cases g : y < x
  ·rw [if_pos g]
   rcases List.mem_cons.1 hx with e | e
   ·omega
   ·exact ih h'.2 e
  ·rw [if_neg g]
   rcases List.mem_cons.1 hx with e | e
   ·rw [e]; rfl
   ·have := h'.1 x e; omega
theorem at_nod {ns : List Nd} {x : Int} (hp : ns.Pairwise fun a b => a.id < b.id) : (hasN ns x = true ∧ ∃ h : atI (nidsV ns) x < ns.length, nodV ns x = some ns[atI (nidsV ns) x] ∧ ns[atI (nidsV ns) x].id = x) ∨ (hasN ns x = false ∧ nodV ns x = none) := by
 have hi := nod_some ns x
 cases hn : nodV ns x with
 | none => rw [hn] at hi; exact .inr ⟨hi.symm, rfl⟩
 | some n =>
  rw [hn] at hi
  refine .inl ⟨hi.symm, ?_⟩
  unfold nodV at hn
  have hm := List.mem_of_find?_eq_some hn
  have he : n.id = x := by simpa using List.find?_some hn
  have hq : (nidsV ns).Pairwise (· < ·) := List.pairwise_map.2 hp
  have hx : x ∈ nidsV ns := List.mem_map.2 ⟨n, hm, he⟩
  have hs : (nidsV ns)[atI (nidsV ns) x]? = some x := atI_at hq hx
  have hs' := hs
  unfold nidsV at hs'
  rw [List.getElem?_map] at hs'
  obtain ⟨m, hm1, hm2⟩ := Option.map_eq_some_iff.1 hs'
  obtain ⟨hl, hm3⟩ := List.getElem?_eq_some_iff.1 hm1
  refine ⟨hl, ?_, by show (ns[atI (ns.map Nd.id) x]).id = x; rw [hm3]; exact hm2⟩
  have hmm : ns[atI (nidsV ns) x] = m := hm3
  rw [hmm]
  congr 1
  have hmem : m ∈ ns := List.mem_of_getElem? hm1
  have hne : ∀ a ∈ ns, ∀ b ∈ ns, a.id = b.id → a = b := fun a ha b hb e => by
   obtain ⟨i, hi1, rfl⟩ := List.getElem_of_mem ha
   obtain ⟨j, hj1, rfl⟩ := List.getElem_of_mem hb
   rcases Nat.lt_trichotomy i j with k | k | k
   ·have := List.pairwise_iff_getElem.1 hp i j hi1 hj1 k; omega
   ·subst k; rfl
   ·have := List.pairwise_iff_getElem.1 hp j i hj1 hi1 k; omega
  exact hne n hm m hmem (he.trans hm2.symm)
theorem edg_some (ns : List Ed) (x : Int) : (edgV ns x).isSome = hasE ns x := by
 unfold edgV hasE; rw [Bool.eq_iff_iff, List.find?_isSome, List.any_eq_true]
theorem at_edg {ns : List Ed} {x : Int} (hp : ns.Pairwise fun a b => a.id < b.id) : (hasE ns x = true ∧ ∃ h : atI (eidsV ns) x < ns.length, edgV ns x = some ns[atI (eidsV ns) x] ∧ ns[atI (eidsV ns) x].id = x) ∨ (hasE ns x = false ∧ edgV ns x = none) := by
 have hi := edg_some ns x
 cases hn : edgV ns x with
 | none => rw [hn] at hi; exact .inr ⟨hi.symm, rfl⟩
 | some n =>
  rw [hn] at hi
  refine .inl ⟨hi.symm, ?_⟩
  unfold edgV at hn
  have hm := List.mem_of_find?_eq_some hn
  have he : n.id = x := by simpa using List.find?_some hn
  have hq : (eidsV ns).Pairwise (· < ·) := List.pairwise_map.2 hp
  have hx : x ∈ eidsV ns := List.mem_map.2 ⟨n, hm, he⟩
  have hs : (eidsV ns)[atI (eidsV ns) x]? = some x := atI_at hq hx
  have hs' := hs
  unfold eidsV at hs'
  rw [List.getElem?_map] at hs'
  obtain ⟨m, hm1, hm2⟩ := Option.map_eq_some_iff.1 hs'
  obtain ⟨hl, hm3⟩ := List.getElem?_eq_some_iff.1 hm1
  refine ⟨hl, ?_, by show (ns[atI (ns.map Ed.id) x]).id = x; rw [hm3]; exact hm2⟩
  have hmm : ns[atI (eidsV ns) x] = m := hm3
  rw [hmm]
  congr 1
  have hmem : m ∈ ns := List.mem_of_getElem? hm1
  have hne : ∀ a ∈ ns, ∀ b ∈ ns, a.id = b.id → a = b := fun a ha b hb e => by
   obtain ⟨i, hi1, rfl⟩ := List.getElem_of_mem ha
   obtain ⟨j, hj1, rfl⟩ := List.getElem_of_mem hb
   rcases Nat.lt_trichotomy i j with k | k | k
   ·have := List.pairwise_iff_getElem.1 hp i j hi1 hj1 k; omega
   ·subst k; rfl
   ·have := List.pairwise_iff_getElem.1 hp j i hj1 hi1 k; omega
  exact hne n hm m hmem (he.trans hm2.symm)
end Go.Proofs.YtpamdlkagmlahaaGreatDoor

namespace Go.Proofs.YtpamdlkagmlahaaGreatDoor
open Go.RowKit
theorem setCell_id {w : World} {b j : Nat} {v : Value} (h : w.cell? ⟨b, j, none⟩ = some v) : w.setCell ⟨b, j, none⟩ v = w := by
 unfold World.cell? at h
 unfold World.setCell
 simp only at h ⊢
 cases hg : w.heap[b]? with
 | none => rw [hg] at h; cases h
 | some o =>
  rw [hg] at h
  cases o with
  | cells c e f =>
   simp only [Option.isSome_none, Bool.false_eq_true, if_false] at h ⊢
   obtain ⟨hb, hbe⟩ := Array.getElem?_eq_some_iff.1 hg
   have e : w.heap.modify b (fun x => match x with | .cells c elem frozen => .cells (c.setIfInBounds j v) elem frozen | o => o) = w.heap := by
    refine Array.ext (by rw [Array.size_modify]) fun i h1 h2 => ?_
    rw [Array.getElem_modify]
    split
    ·rename_i hi
     subst hi
     rw [hbe]
     simp only [Obj.cells.injEq, and_true]
     refine Array.ext (by rw [Array.size_setIfInBounds]) fun k k1 k2 => ?_
     rw [Array.getElem_setIfInBounds]
     split
     ·rename_i hk
      subst hk
      exact (Array.getElem?_eq_some_iff.1 h).2.symm
     ·rfl
    ·rfl
   cases w
   simp only at e ⊢
   exact congrArg (fun H => (⟨H, _, _, _, _⟩ : World)) e
  | _ => cases h
def set5 (l : List Value) (k : Nat) (x : Vl) (a : Option Addr) (c : Nat) : List Value := ((((l.set k (.int .i64 x.kd)).set (k + 1) (.int .i64 x.nn)).set (k + 2) (.int .i64 x.dd)).set (k + 3) (.string (bs x.ss))).set (k + 4) (.slice a x.ll.length c)
theorem set_app_right {α : Type} (l r : List α) (k : Nat) (v : α) (h : l.length ≤ k) : (l ++ r).set k v = l ++ r.set (k - l.length) v := List.set_append_right _ _ h
theorem set5_app (l r : List Value) (k : Nat) (x : Vl) (a : Option Addr) (c : Nat) : set5 (l ++ r) (l.length + k) x a c = l ++ set5 r k x a c := by
 unfold set5
 rw [set_app_right _ _ _ _ (by omega), set_app_right _ _ _ _ (by omega), set_app_right _ _ _ _ (by omega), set_app_right _ _ _ _ (by omega), set_app_right _ _ _ _ (by omega)]
 congr 1
 congr 1
 ·congr 1
  ·congr 1
   ·congr 1
    ·congr 1
     omega
    ·omega
   ·omega
  ·omega
 ·omega
theorem lp_set : ∀ (pm : List (Pp × AC)) (i : Nat) (x : Vl) (a : Option Addr) (c : Nat) (h : i < pm.length), LP.cs (pm.set i (⟨pm[i].1.k, x⟩, (a, c))) = set5 (LP.cs pm) (i * 6 + 1) x a c
 | p :: r, 0, x, a, c, _ => rfl
 | p :: r, i + 1, x, a, c, h => by
  have h' : i < r.length := by simpa using h
  show pC p.1 p.2 ++ LP.cs (r.set i (⟨r[i].1.k, x⟩, (a, c))) = set5 (pC p.1 p.2 ++ LP.cs r) ((i + 1) * 6 + 1) x a c
  have e6 : (pC p.1 p.2).length = 6 := rfl
  rw [show (i + 1) * 6 + 1 = (pC p.1 p.2).length + (i * 6 + 1) by omega, set5_app, lp_set r i x a c h']
theorem own_set5 {w : World} {base g n cap k : Nat} {e : TypeId} {s : Nat} {xs : List Value} {x : Vl} {a : Option Addr} {c : Nat} (h : w.ownsRow base e s (.slice (some ⟨g, 0, none⟩) n cap) n xs) :
  (((((w.setCell ⟨g, k, none⟩ (.int .i64 x.kd)).setCell ⟨g, k + 1, none⟩ (.int .i64 x.nn)).setCell ⟨g, k + 2, none⟩ (.int .i64 x.dd)).setCell ⟨g, k + 3, none⟩ (.string (bs x.ss))).setCell ⟨g, k + 4, none⟩ (.slice a x.ll.length c)).ownsRow base e s (.slice (some ⟨g, 0, none⟩) n cap) n (set5 xs k x a c) ∧
  w.grownBy (((((w.setCell ⟨g, k, none⟩ (.int .i64 x.kd)).setCell ⟨g, k + 1, none⟩ (.int .i64 x.nn)).setCell ⟨g, k + 2, none⟩ (.int .i64 x.dd)).setCell ⟨g, k + 3, none⟩ (.string (bs x.ss))).setCell ⟨g, k + 4, none⟩ (.slice a x.ll.length c)) (some g) := by
 obtain ⟨h1, g1⟩ := h.stored k (.int .i64 x.kd)
 obtain ⟨h2, g2⟩ := h1.stored (k + 1) (.int .i64 x.nn)
 obtain ⟨h3, g3⟩ := h2.stored (k + 2) (.int .i64 x.dd)
 obtain ⟨h4, g4⟩ := h3.stored (k + 3) (.string (bs x.ss))
 obtain ⟨h5, g5⟩ := h4.stored (k + 4) (.slice a x.ll.length c)
 exact ⟨h5, grown_trans (grown_trans (grown_trans (grown_trans g1 g2) g3) g4) g5⟩
theorem lp_ins (pm : List (Pp × AC)) (p : Nat) (x : Pp × AC) : LP.cs (insA pm p x) = (LP.cs pm).take (p * 6) ++ pC x.1 x.2 ++ (LP.cs pm).drop (p * 6) := by
 obtain ⟨h1, h2⟩ := take_mul_app (fun q : Pp × AC => LP.C q.1 q.2) 6 (fun _ => rfl) pm p
 unfold insA Lay.cs
 rw [List.flatMap_append, List.flatMap_cons, h1, h2, List.append_assoc]
 rfl
theorem lp_del (pm : List (Pp × AC)) (p : Nat) : LP.cs (delA pm p) = (LP.cs pm).take (p * 6) ++ (LP.cs pm).drop ((p + 1) * 6) := by
 unfold delA Lay.cs
 rw [List.flatMap_append, (take_mul_app (fun q : Pp × AC => LP.C q.1 q.2) 6 (fun _ => rfl) pm p).1, (take_mul_app (fun q : Pp × AC => LP.C q.1 q.2) 6 (fun _ => rfl) pm (p + 1)).2]
theorem lp_one (pm : List (Pp × AC)) : ∀ u ∈ LP.cs pm, u.oneCell' = true := by
 intro u hu
 obtain ⟨x, -, hm⟩ := List.mem_flatMap.1 hu
 have hm' : u ∈ pC x.1 x.2 := hm
 unfold pC vC at hm'
 simp only [List.mem_cons, List.not_mem_nil, or_false] at hm'
 rcases hm' with rfl | rfl | rfl | rfl | rfl | rfl <;> rfl
theorem at_hasK {ps : List Pp} {k : List UInt8} (hi : incS (keysV ps)) (h : hasK ps k = true) : ∃ hl : atS (keysV ps) k < ps.length, (ps[atS (keysV ps) k]).k = k := by
 unfold hasK hasS at h
 rw [List.any_eq_true] at h
 obtain ⟨n, hn, en⟩ := h
 have en' : n = k := by simpa using en
 subst en'
 have hs := atS_spec hi hn
 have hs' := hs
 unfold keysV at hs'
 rw [List.getElem?_map] at hs'
 cases hg : ps[atS (keysV ps) n]? with
 | none => unfold keysV at hg; rw [hg] at hs'; cases hs'
 | some q =>
  obtain ⟨hl, e⟩ := List.getElem?_eq_some_iff.1 hg
  refine ⟨hl, ?_⟩
  unfold keysV at hg
  rw [hg] at hs'
  have : q.k = n := by simpa using hs'
  rw [e, this]
theorem lp_cell (pm : List (Pp × AC)) (i j : Nat) (h : i < pm.length) (hj : j < 6) : (LP.cs pm)[i * 6 + j]? = (pC pm[i].1 pm[i].2)[j]? := Lay.cs_get (Y := LP) pm i j h hj
theorem row5 {w : World} {base gl cap i : Nat} {pm : List (Pp × AC)} (h : w.ownsRow base 48 6 (.slice (some ⟨gl, 0, none⟩) pm.length cap) pm.length (LP.cs pm)) (hl : i < pm.length) :
  ∃ u1 u2 u3 u4 u5 : Value, (w.cell? ⟨gl, i * 6 + 1, none⟩ = some u1 ∧ w.frozen? ⟨gl, i * 6 + 1, none⟩ = false) ∧ (w.cell? ⟨gl, i * 6 + 1 + 1, none⟩ = some u2 ∧ w.frozen? ⟨gl, i * 6 + 1 + 1, none⟩ = false) ∧ (w.cell? ⟨gl, i * 6 + 1 + 2, none⟩ = some u3 ∧ w.frozen? ⟨gl, i * 6 + 1 + 2, none⟩ = false) ∧ (w.cell? ⟨gl, i * 6 + 1 + 3, none⟩ = some u4 ∧ w.frozen? ⟨gl, i * 6 + 1 + 3, none⟩ = false) ∧ (w.cell? ⟨gl, i * 6 + 1 + 4, none⟩ = some u5 ∧ w.frozen? ⟨gl, i * 6 + 1 + 4, none⟩ = false) :=
 ⟨_, _, _, _, _, rowC_own h (by omega) (lp_cell pm i 1 hl (by omega)), rowC_own h (by omega) (lp_cell pm i 2 hl (by omega)), rowC_own h (by omega) (lp_cell pm i 3 hl (by omega)), rowC_own h (by omega) (lp_cell pm i 4 hl (by omega)), rowC_own h (by omega) (lp_cell pm i 5 hl (by omega))⟩
end Go.Proofs.YtpamdlkagmlahaaGreatDoor
