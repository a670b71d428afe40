/-
  GsA; RbA; RbB: texts of one kind in one file; each part says what it holds.
-/
import Derived.Test.YtpamdlkagmlahaaGreatDoorK36
import Derived.Test.YtpamdlkagmlahaaGreatDoorM05
import Derived.Test.YtpamdlkagmlahaaGreatDoorM18
import Derived.Test.YtpamdlkagmlahaaGreatDoorK02
import Derived.Laws.AppendOwnNone
import Derived.Test.YtpamdlkagmlahaaGreatDoorCkD
import Derived.Test.YtpamdlkagmlahaaGreatDoorK24
import Derived.Test.YtpamdlkagmlahaaGreatDoorK28

set_option maxHeartbeats 6400000
set_option maxRecDepth 100000
namespace Go.Proofs.YtpamdlkagmlahaaGreatDoor
open Go.RowKit
theorem rplain_any (x : Vl) (ao : Option Addr) (cap : Nat) (w : World) (hi : Vin x) (hs : SlV w ao x.ll cap) :
  Calls Tryz.prog 33 #[vlv x ao cap] w (FwB w (plnV x)) := by
 obtain ⟨p0, f0⟩ := bx1 w x ao cap
 have HV := Lib.hid (fun w' hf => rokV_any x ao cap w' hi (hs.on (w' := w') hf))
 clear hs hi
 unfold plnV
 cases va : okX x
 ·rw [va] at HV
  clear va
  unfold vlv at *
  go_enter Tryz.func33, Tryz.ntmps33
  go_wp2_with fail
  go_at_call 64; refine (HV.out _ f0).mono ?_; rintro e1 w1 ⟨rfl, f1⟩
  go_wp2
  go_ret
  exact ⟨rfl, (f0.trans f1).w⟩
 ·rw [va] at HV
  clear va
  unfold vlv at *
  go_enter Tryz.func33, Tryz.ntmps33
  go_wp2_with fail
  go_at_call 64; refine (HV.out _ f0).mono ?_; rintro e1 w1 ⟨rfl, f1⟩
  have c0 := (p0.on f1).c0
  generalize x.kd = k at *
  go_wp2
  all_goals
   go_ret
   exact ⟨ret_bool (by simp_all), (f0.trans f1).w⟩
theorem rnames_any (l : List (List UInt8)) (ao : Option Addr) (cap : Nat) (w : World) (hs : SlS w ao l cap) : Calls Tryz.prog 128 #[.slice ao l.length cap] w (PureB w (l.all nameV)) := by
 have hl := hs.len
 have HS := Lib.hid hs
 clear hs
 go_enter Tryz.func128, Tryz.ntmps128
 go_wp2
 go_loop [3] (fun iv => ∃ i : Nat, iv = .int .i64 i ∧ i ≤ l.length ∧ Hid (l.all nameV = (l.drop i).all nameV)) (fun iv => l.length - (RowKit.intOf iv).toNat)
 case atStart => exact ⟨0, rfl, Nat.zero_le _, rfl⟩
 case round =>
  obtain ⟨i, rfl, hi, HN⟩ := hrel
  by_cases hlt : i < l.length
  ·obtain ⟨b, o, rfl, hz, hc⟩ := HS.out.get hlt
   have hA := all_drop nameV l i hlt
   have HC := Lib.hid (HN.out.trans hA)
   rw [Nat.mul_one] at hc
   have HM := Lib.hid (rname_any (bs l[i]) w (by rw [bs_size]; exact hz))
   rw [bs_data] at HM
   clear hA HN hz
   generalize l[i] = s at *
   generalize nameV s = r at *
   go_wp2_with (go_at_call 32; refine HM.out.mono ?_; rintro e w' ⟨rfl, rfl⟩)
   ·have HD := Lib.hid (show l.all nameV = false by rw [HC.out]; simp_all)
    go_ret
    exact ⟨ret_bool HD.out.symm, rfl⟩
   ·have HD := Lib.hid (show l.all nameV = (l.drop (i + 1)).all nameV by rw [HC.out]; simp_all)
    go_round
    case rel => exact ⟨i + 1, by go_num, by omega, HD.out⟩
    case measure => simp [RowKit.intOf]; omega
  ·have HD := Lib.hid (show l.all nameV = true by rw [HN.out, all_end _ _ _ (by omega)])
   clear HN
   go_wp2
   go_ret
   exact ⟨ret_bool HD.out.symm, rfl⟩
theorem rises_any (l : List (List UInt8)) (ao : Option Addr) (cap : Nat) (w : World) (hs : SlS w ao l cap) : Calls Tryz.prog 129 #[.slice ao l.length cap] w (FwB w (risV l)) := by
 have hl := hs.len
 have HS := Lib.hid hs
 clear hs
 go_enter Tryz.func129, Tryz.ntmps129
 go_wp2
 go_loopw [3] (fun iv wr => ∃ i : Nat, iv = .int .i64 ((i : Int) + 1) ∧ i ≤ l.length ∧ Hid (risV l = risV (l.drop i)) ∧ Fuw w wr) (fun iv _ => l.length - (RowKit.intOf iv).toNat)
 case atStart => exact ⟨0, rfl, Nat.zero_le _, rfl, Fuw.refl _⟩
 case round =>
  obtain ⟨i, rfl, hi, HN, hf⟩ := hrel
  by_cases hlt : i + 1 < l.length
  ·obtain ⟨b, o, rfl, ⟨-, c0⟩, -, c1⟩ := (slS_on hf HS.out).get2 (show i < l.length by omega) hlt
   have hA := ris_step l i hlt
   have HC := Lib.hid (HN.out.trans hA)
   rw [Nat.mul_one] at c0 c1
   have k1 : IntKind.i64.wrap ((i : Int) + 1 - 1) = (i : Int) := by rw [Int.add_sub_cancel]; exact IntWalk.i64_in _ (by omega)
   have k2 : ((i : Int) + 1).toNat = i + 1 := by omega
   have k3 : (0 : Int) ≤ (i : Int) + 1 := by omega
   have k4 : (i : Int) + 1 < (l.length : Int) := by omega
   clear hA HN
   generalize l[i] = s at *
   generalize l[i + 1] = t at *
   rcases str_less' t s with ⟨-, g1, g2, g3⟩ | ⟨-, g1, g2, g3⟩ | ⟨-, g1, g2, g3⟩
   ·have f1 : Op.bytesLess (bs t).toList (bs s).toList = true := by rw [toL, toL, bs_data, bs_data]; exact g1
    have f2 : ((bs t).toList == (bs s).toList) = false := by rw [toL, toL, bs_data, bs_data]; exact g3
    have HD := Lib.hid (show risV l = false by rw [HC.out, g2]; rfl)
    clear g1 g2 g3
    go_wp2
    go_quiet (fail)
    clear k1 k2 f1 f2
    go_wp2
    go_ret
    exact ⟨ret_bool HD.out.symm, hf.trans (fuw_dr _ _)⟩
   ·have f1 : Op.bytesLess (bs t).toList (bs s).toList = false := by rw [toL, toL, bs_data, bs_data]; exact g1
    have f2 : ((bs t).toList == (bs s).toList) = true := by rw [toL, toL, bs_data, bs_data]; exact g3
    have HD := Lib.hid (show risV l = false by rw [HC.out, g2]; rfl)
    clear g1 g2 g3
    go_wp2
    go_quiet (fail)
    clear k1 k2 f1 f2
    go_wp2
    go_ret
    exact ⟨ret_bool HD.out.symm, hf.trans (fuw_dr _ _)⟩
   ·have f1 : Op.bytesLess (bs t).toList (bs s).toList = false := by rw [toL, toL, bs_data, bs_data]; exact g1
    have f2 : ((bs t).toList == (bs s).toList) = false := by rw [toL, toL, bs_data, bs_data]; exact g3
    have HD := Lib.hid (show risV l = risV (l.drop (i + 1)) by rw [HC.out, g2]; rfl)
    clear g1 g2 g3
    go_wp2
    go_quiet (fail)
    clear k1 k2 f1 f2
    go_wp2
    go_roundw
    case rel => exact ⟨i + 1, by go_num, by omega, HD.out, hf.trans (fuw_dr _ _)⟩
    case measure => simp [RowKit.intOf]; omega
  ·have HD := Lib.hid (show risV l = true by rw [HN.out, ris_end _ _ (by omega)])
   clear HN
   go_wp2
   go_ret
   exact ⟨ret_bool HD.out.symm, hf⟩
theorem keysV_drop (l : List Pp) (i : Nat) (h : i < l.length) : keysV (l.drop i) = [l[i].k] ++ keysV (l.drop (i + 1)) := by
 unfold keysV
 rw [List.drop_eq_getElem_cons h]; rfl
theorem rkeys_any (l : List Pp) (ao : Option Addr) (cap : Nat) (w : World) (hs : SlP w ao l cap) (h16 : l.length ≤ 16) :
  Calls Tryz.prog 127 #[.slice ao l.length cap] w fun e w' => ∃ a c, e = .returned (.slice a (keysV l).length c) ∧ SlS w' a (keysV l) c ∧ Fuw w w' := by
 have hl := hs.len
 have HS := Lib.hid hs
 obtain ⟨U, hU⟩ : ∃ U, U = keysV l := ⟨_, rfl⟩
 have HU := Lib.hid (show U = [] ++ keysV (l.drop 0) from hU)
 have HM := Lib.hid (show ∀ s ∈ U, s.length ≤ maxLen from fun s h => by
  rw [hU] at h
  unfold keysV at h
  obtain ⟨p, hp, rfl⟩ := List.mem_map.1 h
  obtain ⟨j, hj, rfl⟩ := List.getElem_of_mem hp
  obtain ⟨-, -, -, hz, -⟩ := HS.out.get hj
  exact hz)
 rw [← hU]
 clear hU hs
 obtain ⟨i0, hi, hz0, hz1, hz2⟩ := info_parts infoS
 go_enter Tryz.func127, Tryz.ntmps127
 go_wp2
 go_loopw [3, 4] (fun lv iv wr => ∃ (i : Nat) (L : List (List UInt8)), iv = .int .i64 i ∧ i ≤ l.length ∧ L.length ≤ i ∧ wr.ownsRow w.heap.size 9 1 lv L.length (sC L) ∧ Hid (U = L ++ keysV (l.drop i)) ∧ Hid (Fuw w wr)) (fun _ iv _ => l.length - (RowKit.intOf iv).toNat)
 case atStart => exact ⟨0, [], rfl, Nat.zero_le _, Nat.le_refl _, World.ownsRow_nil _ _ _ _, HU, Fuw.refl _⟩
 case round =>
  obtain ⟨i, L, rfl, hii, hL, hown, HQ, HF⟩ := hrel
  by_cases hlt : i < l.length
  ·obtain ⟨b, o, rfl, -, c0, -⟩ := (slP_on HF.out HS.out).get hlt
   have HZ := Lib.hid (show U = (L ++ [l[i].k]) ++ keysV (l.drop (i + 1)) by rw [HQ.out, keysV_drop l i hlt, List.append_assoc])
   generalize l[i].k = key at *
   go_wp2_with (at_builtin; refine wpList_append_own_at _ rfl (.tmp 11) (.tmp 17) 46 rfl w.heap.size 9 i0 (.string ⟨#[]⟩) 1 16 Tryz.underlying46 hi hz0 hz1 hz2 rfl (by decide) _ L.length (sC L) rfl (hown.alloc _) ⟨wr.heap.size, 0, none⟩ 1 1 (sC [key]) rfl rfl (World.news_of_block (heap_alloc_new wr _)) (by intro u hu; simp [sC] at hu; subst hu; rfl) (by unfold maxLen; omega) (by omega) (by have := HF.out.size; simp; omega) ?_; intro v' w5 hown5 hgrow _ _)
   have F5 := Lib.hid (show Fuw w w5 from Below.grown (HF.out.alloc _) hgrow (HF.out.alloc _).size (fun k hk => (hown.lt k hk).1))
   have hown6 : w5.ownsRow w.heap.size 9 1 v' (L ++ [key]).length (sC (L ++ [key])) := by
    rw [sC_app, List.length_append]; exact hown5
   have hlen : (L ++ [key]).length ≤ i + 1 := by rw [List.length_append]; simp; omega
   clear hown5 hown hgrow c0
   generalize L ++ [key] = L2 at *
   go_wp2
   go_roundw
   case rel => exact ⟨i + 1, L2, by go_num, by omega, hlen, hown6, HZ, F5⟩
   case measure => simp [RowKit.intOf]; omega
  ·have HZ := Lib.hid (show U = L by rw [HQ.out, List.drop_of_length_le (by omega)]; unfold keysV; simp)
   obtain ⟨a, c, e1, -, hS⟩ := slS_of_own hown (fun s h => HM.out s (by rw [HZ.out]; exact h))
   have HE := Lib.hid e1
   have HSS := Lib.hid hS
   clear e1 hS hown
   go_wp2
   go_ret
   exact ⟨a, c, by rw [HZ.out, ← HE.out]; rfl, by rw [HZ.out]; exact HSS.out, HF.out⟩
end Go.Proofs.YtpamdlkagmlahaaGreatDoor

namespace Go.Proofs.YtpamdlkagmlahaaGreatDoor
open Go.RowKit
theorem rwithout_any (l : List (List UInt8)) (s : List UInt8) (ao : Option Addr) (cap : Nat) (w : World) (hs : SlS w ao l cap) (hn : l.length ≤ 100000) :
  Calls Tryz.prog 95 #[.slice ao l.length cap, .string (bs s)] w fun e w' => ∃ a c, e = .returned (.slice a (butS s l).length c) ∧ SlS w' a (butS s l) c ∧ Fuw w w' := by
 have hl := hs.len
 have HS := Lib.hid hs
 obtain ⟨U, hU⟩ : ∃ U, U = butS s l := ⟨_, rfl⟩
 have HU := Lib.hid (show U = [] ++ butS s (l.drop 0) from hU)
 have HM := Lib.hid (show ∀ t ∈ U, t.length ≤ maxLen from fun t h => by
  rw [hU] at h
  have hm : ∀ (q : List (List UInt8)), t ∈ butS s q → t ∈ q := fun q => by
   induction q with
   | nil => exact id
   | cons y r ih =>
    intro h
    rcases List.mem_append.1 h with h | h
    ·by_cases g : y = s
     ·rw [if_pos g] at h; cases h
     ·rw [if_neg g, List.mem_singleton] at h; subst h; exact List.mem_cons_self ..
    ·exact List.mem_cons_of_mem _ (ih h)
  obtain ⟨j, hj, rfl⟩ := List.getElem_of_mem (hm l h)
  obtain ⟨-, -, -, hz, -⟩ := HS.out.get hj
  exact hz)
 rw [← hU]
 clear hU hs
 obtain ⟨i0, hi, hz0, hz1, hz2⟩ := info_parts infoS
 go_enter Tryz.func95, Tryz.ntmps95
 go_wp2
 go_loopw [5, 6] (fun lv iv wr => ∃ (i : Nat) (L : List (List UInt8)), iv = .int .i64 i ∧ i ≤ l.length ∧ L.length ≤ i ∧ wr.ownsRow w.heap.size 9 1 lv L.length (sC L) ∧ Hid (U = L ++ butS s (l.drop i)) ∧ Hid (Fuw w wr)) (fun _ iv _ => l.length - (RowKit.intOf iv).toNat)
 case atStart => exact ⟨0, [], rfl, Nat.zero_le _, Nat.le_refl _, World.ownsRow_nil _ _ _ _, HU, Fuw.refl _⟩
 case round =>
  obtain ⟨i, L, rfl, hii, hL, hown, HQ, HF⟩ := hrel
  by_cases hlt : i < l.length
  ·obtain ⟨b, o, rfl, -, c0⟩ := (slS_on HF.out HS.out).get hlt
   rw [Nat.mul_one] at c0
   have HD := Lib.hid (HQ.out.trans (by rw [butS_drop s l i hlt]))
   generalize l[i] = key at *
   by_cases hk : key = s
   ·subst hk
    have HZ := Lib.hid (show U = L ++ butS key (l.drop (i + 1)) from by rw [HD.out, if_pos rfl]; rfl)
    have HO := Lib.hid hown
    clear hown
    go_wp2
    go_roundw
    case rel => exact ⟨i + 1, L, by go_num, by omega, by omega, HO.out, HZ, HF⟩
    case measure => simp [RowKit.intOf]; omega
   ·have he : ((bs key).toList == (bs s).toList) = false := by rw [bs_list, bs_list]; exact beq_eq_false_iff_ne.2 hk
    have he' : ((bs key).toList != (bs s).toList) = true := by rw [bne, he]; rfl
    have HZ := Lib.hid (show U = (L ++ [key]) ++ butS s (l.drop (i + 1)) from by rw [HD.out, if_neg hk, List.append_assoc])
    go_wp2_with (at_builtin; refine wpList_append_own_at _ rfl (.tmp 19) (.tmp 24) 46 rfl w.heap.size 9 i0 (.string ⟨#[]⟩) 1 16 Tryz.underlying46 hi hz0 hz1 hz2 rfl (by decide) _ L.length (sC L) rfl (hown.alloc _) ⟨wr.heap.size, 0, none⟩ 1 1 (sC [key]) rfl rfl (World.news_of_block (heap_alloc_new wr _)) (by intro u hu; simp [sC] at hu; subst hu; rfl) (by unfold maxLen; omega) (by omega) (by have := HF.out.size; simp; omega) ?_; intro v' w5 hown5 hgrow _ _)
    have F5 := Lib.hid (show Fuw w w5 from Below.grown (HF.out.alloc _) hgrow (HF.out.alloc _).size (fun k hk => (hown.lt k hk).1))
    have hown6 : w5.ownsRow w.heap.size 9 1 v' (L ++ [key]).length (sC (L ++ [key])) := by
     rw [sC_app, List.length_append]; exact hown5
    have hlen : (L ++ [key]).length ≤ i + 1 := by rw [List.length_append]; simp; omega
    clear hown5 hown hgrow c0 he he'
    generalize L ++ [key] = L2 at *
    go_wp2
    go_roundw
    case rel => exact ⟨i + 1, L2, by go_num, by omega, hlen, hown6, HZ, F5⟩
    case measure => simp [RowKit.intOf]; omega
  ·have HZ := Lib.hid (show U = L by rw [HQ.out, List.drop_of_length_le (by omega)]; unfold butS; simp)
   obtain ⟨a, c, e1, -, hS⟩ := slS_of_own hown (fun s h => HM.out s (by rw [HZ.out]; exact h))
   have HE := Lib.hid e1
   have HSS := Lib.hid hS
   clear e1 hS hown
   go_wp2
   go_ret
   exact ⟨a, c, by rw [HZ.out, ← HE.out]; rfl, by rw [HZ.out]; exact HSS.out, HF.out⟩
end Go.Proofs.YtpamdlkagmlahaaGreatDoor

namespace Go.Proofs.YtpamdlkagmlahaaGreatDoor
open Go.RowKit
theorem one_LN (n : Nd) (m : AC × AC) : ∀ u ∈ LN.C n m, u.oneCell' = true := by
 intro u hu
 unfold LN at hu
 simp only [List.mem_cons, List.not_mem_nil, or_false] at hu
 rcases hu with rfl | rfl | rfl <;> rfl
def NOk (w : World) (ps : List (Nd × (AC × AC))) : Prop := ∀ p ∈ ps, LN.I p.1 ∧ LN.J p.1 p.2 w
theorem NOk.snoc {w : World} {ps : List (Nd × (AC × AC))} {p : Nd × (AC × AC)} (h : NOk w ps) (h1 : LN.I p.1) (h2 : LN.J p.1 p.2 w) : NOk w (ps ++ [p]) := fun q hq => by
 rcases List.mem_append.1 hq with e | e
 ·exact h q e
 ·rw [List.mem_singleton] at e; subst e; exact ⟨h1, h2⟩
theorem LNJ_on {n : Nd} {m : AC × AC} {w w' : World} (h : LN.J n m w) (hf : Fuw w w') : LN.J n m w' := ⟨slS_on hf h.1, slP_on hf h.2⟩
theorem rputn_any (g : Gr) (an ae : Option Addr) (cn ce : Nat) (y : Nd) (al ap : Option Addr) (kl kp : Nat) (w : World) (hg : GIn w g an ae cn ce) (hi : -1000000000000 ≤ y.id ∧ y.id ≤ 1000000000000) (h1 : SlS w al y.ls kl) (h2 : SlP w ap y.ps kp) (hn : g.ns.length ≤ 100000) :
  Calls Tryz.prog 52 #[grv g an ae cn ce, ndv y al ap kl kp] w fun e w' => ∃ a c, e = .returned (.agg #[.slice a (putA Nd.id y false g.ns).length c, .slice ae g.es.length ce, .int .i64 (max g.nn (y.id + 1)), .int .i64 g.ne]) ∧ SlN w' a (putA Nd.id y false g.ns) c ∧ Fuw w w' := by
 obtain ⟨i0, hi0, hz0, hz1, hz2⟩ := info_parts infoN
 obtain ⟨W, hW⟩ : ∃ W, W = ((w.alloc (.cells #[.slice an g.ns.length cn, .slice ae g.es.length ce, .int .i64 g.nn, .int .i64 g.ne] 25)).alloc (.cells #[.int .i64 y.id, .slice al y.ls.length kl, .slice ap y.ps.length kp] 51)).alloc (.cells #[.slice none 0 0, .slice none 0 0, .int .i64 0, .int .i64 0] 25) := ⟨_, rfl⟩
 have fW : Fuw w W := by rw [hW]; exact ((fuwA _ _).trans (fuwA _ _)).trans (fuwA _ _)
 have HG := Lib.hid (show Bk W w.heap.size #[.slice an g.ns.length cn, .slice ae g.es.length ce, .int .i64 g.nn, .int .i64 g.ne] 25 from by rw [hW]; exact ((Bk.new w _ _).on (fuwA _ _)).on (fuwA _ _))
 have HN := Lib.hid (show Bk W (w.heap.size + 1) #[.int .i64 y.id, .slice al y.ls.length kl, .slice ap y.ps.length kp] 51 from by
  rw [hW]
  have := Bk.new (w.alloc (.cells #[.slice an g.ns.length cn, .slice ae g.es.length ce, .int .i64 g.nn, .int .i64 g.ne] 25)) #[.int .i64 y.id, .slice al y.ls.length kl, .slice ap y.ps.length kp] 51
  exact Bk.on (by simpa using this) (fuwA _ _))
 have HZ := Lib.hid (show Bk W (w.heap.size + 1 + 1) #[.slice none 0 0, .slice none 0 0, .int .i64 0, .int .i64 0] 25 from by
  rw [hW]
  have := Bk.new ((w.alloc (.cells #[.slice an g.ns.length cn, .slice ae g.es.length ce, .int .i64 g.nn, .int .i64 g.ne] 25)).alloc (.cells #[.int .i64 y.id, .slice al y.ls.length kl, .slice ap y.ps.length kp] 51)) #[.slice none 0 0, .slice none 0 0, .int .i64 0, .int .i64 0] 25
  simpa using this)
 have HWS := Lib.hid (show W.heap.size = w.heap.size + 3 from by rw [hW]; simp)
 have HFW := Lib.hid fW
 have HS := Lib.hid hg.n
 have HJ := Lib.hid (show LN.I y ∧ LN.J y ((al, kl), (ap, kp)) w from ⟨by unfold LN I64; simp only; omega, h1, h2⟩)
 obtain ⟨U, hU⟩ : ∃ U, U = putA Nd.id y false g.ns := ⟨_, rfl⟩
 have HU := Lib.hid (show U = ([] : List (Nd × (AC × AC))).map Prod.fst ++ putA Nd.id y false (g.ns.drop 0) from hU)
 rw [← hU]
 have hnl := hg.n.len
 unfold grv ndv
 clear fW hg h1 h2 hU
 go_enter Tryz.func52, Tryz.ntmps52
 go_wp2_with fail
 rw [← hW]
 clear hW
 go_loopw [5, 6, 7] (fun lv dv iv wr => ∃ (i : Nat) (d : Bool) (ps : List (Nd × (AC × AC))), dv = .bool d ∧ iv = .int .i64 i ∧ i ≤ g.ns.length ∧ ps.length ≤ 2 * i ∧ wr.ownsRow W.heap.size 51 3 lv ps.length (LN.cs ps) ∧ Hid (U = ps.map Prod.fst ++ putA Nd.id y d (g.ns.drop i)) ∧ Hid (NOk w ps) ∧ Hid (Fuw W wr)) (fun _ _ iv _ => g.ns.length - (RowKit.intOf iv).toNat)
 case atStart => exact ⟨0, false, [], rfl, rfl, Nat.zero_le _, Nat.zero_le _, World.ownsRow_nil _ _ _ _, HU, Lib.hid (fun _ h => by cases h), Lib.hid (Fuw.refl _)⟩
 case round =>
  obtain ⟨i, d, ps, rfl, rfl, hii, hps, hown, HQ, HK, HF⟩ := hrel
  generalize wr = wo at *
  have g0 := (HG.out.on HF.out).c 0; have g1 := (HG.out.on HF.out).c 1; have g2 := (HG.out.on HF.out).c 2; have g3 := (HG.out.on HF.out).c 3
  have n0 := (HN.out.on HF.out).c 0; have n1 := (HN.out.on HF.out).c 1; have n2 := (HN.out.on HF.out).c 2
  by_cases hlt : i < g.ns.length
  ·obtain ⟨b, o, rfl, x0, c0', ⟨al', cl', c1', s1'⟩, ap', cp', c2', s2'⟩ := HS.out.get hlt
   have fa := HFW.out.trans HF.out
   have c0 := cellOnw fa c0'; have c1 := cellOnw fa c1'; have c2 := cellOnw fa c2'
   have HD := Lib.hid (HQ.out.trans (by rw [putA_drop Nd.id y d g.ns i hlt]))
   have HX := Lib.hid (show LN.I g.ns[i] ∧ LN.J g.ns[i] ((al', cl'), (ap', cp')) w from ⟨x0, s1', s2'⟩)
   have hli : (i : Int) < (g.ns.length : Int) := by omega
   have HC0 := Lib.hid c0'; have HC1 := Lib.hid c1'; have HC2 := Lib.hid c2'
   clear fa c0' c1' c2' s1' s2' x0
   generalize g.ns[i] = x at *
   cases d with
   | true =>
    by_cases hk : x.id = y.id
    ·have HZ2 := Lib.hid (show U = ps.map Prod.fst ++ putA Nd.id y true (g.ns.drop (i + 1)) from by rw [HD.out]; simp [hk])
     have hkb : (x.id == y.id) = true := by rw [hk]; exact beq_self_eq_true _
     have hkc : (x.id != y.id) = false := by rw [bne, hkb]; rfl
     go_upto_region 6 with fail
     go_region
     go_upto_region 9 with fail
     go_region
     go_wp2
     go_roundw
     case rel => exact ⟨i + 1, true, ps, rfl, by go_num, by omega, by omega, own_heap hown fun _ _ => rfl, HZ2, HK, Lib.hid (HF.out.trans ((Fuw.drew (Fuw.refl wo)).trans (Fuw.drew (Fuw.refl wo.drew))))⟩
     case measure => simp [RowKit.intOf]; omega
    ·have HZ2 := Lib.hid (show U = (ps ++ [(x, ((al', cl'), (ap', cp')))]).map Prod.fst ++ putA Nd.id y true (g.ns.drop (i + 1)) from by rw [HD.out]; simp [hk])
     have hkb : (x.id == y.id) = false := beq_eq_false_iff_ne.2 hk
     have hkc : (x.id != y.id) = true := by rw [bne_iff_ne]; exact hk
     go_upto_region 6 with fail
     go_region
     go_upto_region 9 with fail
     go_region
     have hw2 : Fuw wo wo.drew.drew := (Fuw.drew (Fuw.refl wo)).trans (Fuw.drew (Fuw.refl wo.drew))
     have HF2 := Lib.hid (HF.out.trans hw2)
     replace hown : (wo.drew.drew).ownsRow W.heap.size 51 3 u5 ps.length (LN.cs ps) := own_heap hown fun _ _ => rfl
     go_upto_region 10 with fail
     go_wp2_with (at_builtin; refine wpList_append_own_at _ rfl (.tmp 41) (.tmp 47) 22 rfl W.heap.size 51 i0 _ 3 56 Tryz.underlying22 hi0 hz0 hz1 hz2 rfl (by decide) _ ps.length (LN.cs ps) rfl (hown.alloc _) ⟨(wo.drew.drew).heap.size, 0, none⟩ 1 1 (LN.C x ((al', cl'), (ap', cp'))) rfl rfl (World.news_of_block (heap_alloc_new (wo.drew.drew) _)) (one_LN _ _) (by unfold maxLen; (try rw [List.length_append]); (try simp only [List.length_cons, List.length_nil]); omega) (by (try rw [List.length_append]); (try simp only [List.length_cons, List.length_nil]); omega) (by have := HF2.out.size; simp at this ⊢; omega) ?_; intro v5 w5 hown5 hgrow _ _)
     have HF5 := Lib.hid (show Fuw W w5 from Below.grown (HF2.out.alloc _) hgrow (HF2.out.alloc _).size (fun k hk => (hown.lt k hk).1))
     have hown6 : w5.ownsRow W.heap.size 51 3 v5 (ps ++ [(x, ((al', cl'), (ap', cp')))]).length (LN.cs (ps ++ [(x, ((al', cl'), (ap', cp')))])) := by
      rw [LN.cs_app, LN.cs_one, List.length_append]; exact hown5
     clear hown5 hgrow hown hw2
     go_wp2
     go_roundw
     case rel => exact ⟨i + 1, true, (ps ++ [(x, ((al', cl'), (ap', cp')))]), rfl, by go_num, by omega, (by (try rw [List.length_append]); (try rw [List.length_append]); simp only [List.length_cons, List.length_nil]; omega), hown6, HZ2, Lib.hid (HK.out.snoc HX.out.1 HX.out.2), HF5⟩
     case measure => simp [RowKit.intOf]; omega
   | false =>
    by_cases hy : y.id ≤ x.id
    ·have hyb : ¬ x.id < y.id := by omega
     go_upto_region 6 with fail
     go_region
     have hw2 : Fuw wo wo.drew := Fuw.drew (Fuw.refl wo)
     have HF2 := Lib.hid (HF.out.trans hw2)
     replace hown : (wo.drew).ownsRow W.heap.size 51 3 u5 ps.length (LN.cs ps) := own_heap hown fun _ _ => rfl
     go_upto_region 8 with (at_builtin; refine wpList_append_own_at _ rfl (.tmp 28) (.tmp 30) 22 rfl W.heap.size 51 i0 _ 3 56 Tryz.underlying22 hi0 hz0 hz1 hz2 rfl (by decide) _ ps.length (LN.cs ps) rfl (hown.alloc _) ⟨(wo.drew).heap.size, 0, none⟩ 1 1 (LN.C y ((al, kl), (ap, kp))) rfl rfl (World.news_of_block (heap_alloc_new (wo.drew) _)) (one_LN _ _) (by unfold maxLen; (try rw [List.length_append]); (try simp only [List.length_cons, List.length_nil]); omega) (by (try rw [List.length_append]); (try simp only [List.length_cons, List.length_nil]); omega) (by have := HF2.out.size; simp at this ⊢; omega) ?_; intro v5 w5 hown5 hgrow _ _)
     have HF5 := Lib.hid (show Fuw W w5 from Below.grown (HF2.out.alloc _) hgrow (HF2.out.alloc _).size (fun k hk => (hown.lt k hk).1))
     have hown6 : w5.ownsRow W.heap.size 51 3 v5 (ps ++ [(y, ((al, kl), (ap, kp)))]).length (LN.cs (ps ++ [(y, ((al, kl), (ap, kp)))])) := by
      rw [LN.cs_app, LN.cs_one, List.length_append]; exact hown5
     clear hown5 hgrow hown hw2
     clear g0 g1 g2 g3 n0 n1 n2 c0 c1 c2
     have g0 := (HG.out.on HF5.out).c 0; have n0 := (HN.out.on HF5.out).c 0
     have c0 := cellOnw (HFW.out.trans HF5.out) HC0.out
     generalize hps2 : ps ++ [(y, ((al, kl), (ap, kp)))] = ps2 at *
     have HK2 := Lib.hid (show NOk w ps2 from by rw [← hps2]; exact HK.out.snoc HJ.out.1 HJ.out.2)
     have hl2 : ps2.length ≤ 2 * i + 1 := by rw [← hps2, List.length_append]; simp only [List.length_cons, List.length_nil]; omega
     have hm2 : ps2.map Prod.fst = ps.map Prod.fst ++ [y] := by rw [← hps2, List.map_append]; rfl
     clear hps2
     by_cases hk : x.id = y.id
     ·have HZ2 := Lib.hid (show U = ps2.map Prod.fst ++ putA Nd.id y true (g.ns.drop (i + 1)) from by rw [HD.out, hm2]; simp [hk])
      have hkb : (x.id == y.id) = true := by rw [hk]; exact beq_self_eq_true _
      have hkc : (x.id != y.id) = false := by rw [bne, hkb]; rfl
      go_upto_region 9 with fail
      go_region
      go_wp2
      go_roundw
      case rel => exact ⟨i + 1, true, ps2, rfl, by go_num, by omega, by omega, own_heap hown6 fun _ _ => rfl, HZ2, HK2, Lib.hid (HF5.out.trans (Fuw.drew (Fuw.refl w5)))⟩
      case measure => simp [RowKit.intOf]; omega
     ·have HZ2 := Lib.hid (show U = (ps2 ++ [(x, ((al', cl'), (ap', cp')))]).map Prod.fst ++ putA Nd.id y true (g.ns.drop (i + 1)) from by rw [HD.out, List.map_append, hm2]; simp [hk, hy])
      have hkb : (x.id == y.id) = false := beq_eq_false_iff_ne.2 hk
      have hkc : (x.id != y.id) = true := by rw [bne_iff_ne]; exact hk
      go_upto_region 9 with fail
      go_region
      have c1 := cellOnw (HFW.out.trans HF5.out) HC1.out; have c2 := cellOnw (HFW.out.trans HF5.out) HC2.out
      have hown := hown6
      have hw2 : Fuw w5 w5.drew := Fuw.drew (Fuw.refl w5)
      have HF2 := Lib.hid (HF5.out.trans hw2)
      replace hown : (w5.drew).ownsRow W.heap.size 51 3 v5 ps2.length (LN.cs ps2) := own_heap hown fun _ _ => rfl
      go_upto_region 10 with fail
      go_wp2_with (at_builtin; refine wpList_append_own_at _ rfl (.tmp 41) (.tmp 47) 22 rfl W.heap.size 51 i0 _ 3 56 Tryz.underlying22 hi0 hz0 hz1 hz2 rfl (by decide) _ ps2.length (LN.cs ps2) rfl (hown.alloc _) ⟨(w5.drew).heap.size, 0, none⟩ 1 1 (LN.C x ((al', cl'), (ap', cp'))) rfl rfl (World.news_of_block (heap_alloc_new (w5.drew) _)) (one_LN _ _) (by unfold maxLen; (try rw [List.length_append]); (try simp only [List.length_cons, List.length_nil]); omega) (by (try rw [List.length_append]); (try simp only [List.length_cons, List.length_nil]); omega) (by have := HF2.out.size; simp at this ⊢; omega) ?_; intro v7 w7 hown5 hgrow _ _)
      have HF7 := Lib.hid (show Fuw W w7 from Below.grown (HF2.out.alloc _) hgrow (HF2.out.alloc _).size (fun k hk => (hown.lt k hk).1))
      have hown7 : w7.ownsRow W.heap.size 51 3 v7 (ps2 ++ [(x, ((al', cl'), (ap', cp')))]).length (LN.cs (ps2 ++ [(x, ((al', cl'), (ap', cp')))])) := by
       rw [LN.cs_app, LN.cs_one, List.length_append]; exact hown5
      clear hown5 hgrow hown hw2
      go_wp2
      go_roundw
      case rel => exact ⟨i + 1, true, (ps2 ++ [(x, ((al', cl'), (ap', cp')))]), rfl, by go_num, by omega, (by (try rw [List.length_append]); (try rw [List.length_append]); simp only [List.length_cons, List.length_nil]; omega), hown7, HZ2, Lib.hid (HK2.out.snoc HX.out.1 HX.out.2), HF7⟩
      case measure => simp [RowKit.intOf]; omega
    ·have hyb : x.id < y.id := by omega
     have hk : ¬ x.id = y.id := by omega
     have hkb : (x.id == y.id) = false := beq_eq_false_iff_ne.2 hk
     have hkc : (x.id != y.id) = true := by rw [bne_iff_ne]; exact hk
     have HZ2 := Lib.hid (show U = (ps ++ [(x, ((al', cl'), (ap', cp')))]).map Prod.fst ++ putA Nd.id y false (g.ns.drop (i + 1)) from by rw [HD.out]; simp [hk, hy])
     go_upto_region 6 with fail
     go_region
     go_upto_region 9 with fail
     go_region
     have hw2 : Fuw wo wo.drew.drew := (Fuw.drew (Fuw.refl wo)).trans (Fuw.drew (Fuw.refl wo.drew))
     have HF2 := Lib.hid (HF.out.trans hw2)
     replace hown : (wo.drew.drew).ownsRow W.heap.size 51 3 u5 ps.length (LN.cs ps) := own_heap hown fun _ _ => rfl
     go_upto_region 10 with fail
     go_wp2_with (at_builtin; refine wpList_append_own_at _ rfl (.tmp 41) (.tmp 47) 22 rfl W.heap.size 51 i0 _ 3 56 Tryz.underlying22 hi0 hz0 hz1 hz2 rfl (by decide) _ ps.length (LN.cs ps) rfl (hown.alloc _) ⟨(wo.drew.drew).heap.size, 0, none⟩ 1 1 (LN.C x ((al', cl'), (ap', cp'))) rfl rfl (World.news_of_block (heap_alloc_new (wo.drew.drew) _)) (one_LN _ _) (by unfold maxLen; (try rw [List.length_append]); (try simp only [List.length_cons, List.length_nil]); omega) (by (try rw [List.length_append]); (try simp only [List.length_cons, List.length_nil]); omega) (by have := HF2.out.size; simp at this ⊢; omega) ?_; intro v5 w5 hown5 hgrow _ _)
     have HF5 := Lib.hid (show Fuw W w5 from Below.grown (HF2.out.alloc _) hgrow (HF2.out.alloc _).size (fun k hk => (hown.lt k hk).1))
     have hown6 : w5.ownsRow W.heap.size 51 3 v5 (ps ++ [(x, ((al', cl'), (ap', cp')))]).length (LN.cs (ps ++ [(x, ((al', cl'), (ap', cp')))])) := by
      rw [LN.cs_app, LN.cs_one, List.length_append]; exact hown5
     clear hown5 hgrow hown hw2
     go_wp2
     go_roundw
     case rel => exact ⟨i + 1, false, (ps ++ [(x, ((al', cl'), (ap', cp')))]), rfl, by go_num, by omega, (by (try rw [List.length_append]); (try rw [List.length_append]); simp only [List.length_cons, List.length_nil]; omega), hown6, HZ2, Lib.hid (HK.out.snoc HX.out.1 HX.out.2), HF5⟩
     case measure => simp [RowKit.intOf]; omega
  ·have hie : i = g.ns.length := by omega
   subst hie
   clear hii hlt
   have hd0 : g.ns.drop g.ns.length = [] := List.drop_of_length_le (Nat.le_refl _)
   cases d with
   | true =>
    have HU2 := Lib.hid (show U = ps.map Prod.fst from by rw [HQ.out, hd0]; show _ ++ [] = _; rw [List.append_nil])
    clear g0 g1 g2 g3 n0 n1 n2 hd0 HQ
    generalize wo = wq at *
    have HX := Lib.hid (show ∀ X : World, (∀ k, W.heap.size ≤ k → X.heap[k]? = wq.heap[k]?) → Fuw w X → ∃ a c, u5 = .slice a U.length c ∧ SlN X a U c from fun X hx hf => by
     have hox : X.ownsRow W.heap.size 51 3 u5 ps.length (LN.cs ps) := own_heap hown fun k hk => hx k (hown.lt k hk).1
     obtain ⟨a, c, e, -, hs⟩ := Lay.sl_own (Y := LN) hox (fun p hp => (HK.out p hp).1) (fun p hp => LNJ_on (HK.out p hp).2 hf)
     have hu : ps.map Prod.fst = U := HU2.out.symm
     rw [hu] at hs
     exact ⟨a, c, by rw [e, ← hu, List.length_map], hs⟩)
    obtain ⟨a, c, e5, -⟩ := HX.out wq (fun _ _ => rfl) (HFW.out.trans HF.out)
    subst e5
    have HGQ := Lib.hid (HG.out.on HF.out)
    have HZQ := Lib.hid (HZ.out.on HF.out)
    have g0 := HGQ.out.c 0; have g1 := HGQ.out.c 1; have g2 := HGQ.out.c 2; have g3 := HGQ.out.c 3
    have n0 := (HN.out.on HF.out).c 0
    have f0 := HGQ.out.f 0; have f1 := HGQ.out.f 1; have f2 := HGQ.out.f 2; have f3 := HGQ.out.f 3
    have z0 := HZQ.out.c 0; have z1 := HZQ.out.c 1; have z2 := HZQ.out.c 2; have z3 := HZQ.out.c 3
    have y0 := HZQ.out.f 0; have y1 := HZQ.out.f 1; have y2 := HZQ.out.f 2; have y3 := HZQ.out.f 3
    clear hown
    go_wp2
    refine g_ret rfl rfl ((((((HZQ.out.far (show w.heap.size + 1 + 1 ≠ w.heap.size by omega) _).far (show w.heap.size + 1 + 1 ≠ w.heap.size by omega) _).set_ 0 _).set_ 1 _).set_ 2 _).set_ 3 _) ?_
    have hws := HWS.out
    have hb : w.heap.size ≤ w.heap.size + 1 + 1 := by omega
    obtain ⟨a', c', e', hs⟩ := HX.out _ (fun k hk => (Below.heap_setCell _ ⟨w.heap.size + 1 + 1, 3, none⟩ _ k (show k ≠ w.heap.size + 1 + 1 by omega)).trans ((Below.heap_setCell _ ⟨w.heap.size + 1 + 1, 2, none⟩ _ k (show k ≠ w.heap.size + 1 + 1 by omega)).trans ((Below.heap_setCell _ ⟨w.heap.size + 1 + 1, 1, none⟩ _ k (show k ≠ w.heap.size + 1 + 1 by omega)).trans ((Below.heap_setCell _ ⟨w.heap.size + 1 + 1, 0, none⟩ _ k (show k ≠ w.heap.size + 1 + 1 by omega)).trans ((Below.heap_setCell _ ⟨w.heap.size, 2, none⟩ _ k (show k ≠ w.heap.size by omega)).trans (Below.heap_setCell _ ⟨w.heap.size, 0, none⟩ _ k (show k ≠ w.heap.size by omega))))))) (fuwS (fuwS (fuwS (fuwS (fuwS (fuwS (HFW.out.trans HF.out) (Nat.le_refl _)) (Nat.le_refl _)) hb) hb) hb) hb)
    injection e' with e1 _ e2
    subst e1 e2
    exact ⟨a, c, rfl, hs, fuwS (fuwS (fuwS (fuwS (fuwS (fuwS (HFW.out.trans HF.out) (Nat.le_refl _)) (Nat.le_refl _)) hb) hb) hb) hb⟩
   | false =>
    have hw2 : Fuw wo wo := Fuw.refl wo
    have HF2 := Lib.hid (HF.out.trans hw2)
    replace hown : (wo).ownsRow W.heap.size 51 3 u5 ps.length (LN.cs ps) := own_heap hown fun _ _ => rfl
    go_upto_region 13 with (at_builtin; refine wpList_append_own_at _ rfl (.tmp 51) (.tmp 53) 22 rfl W.heap.size 51 i0 _ 3 56 Tryz.underlying22 hi0 hz0 hz1 hz2 rfl (by decide) _ ps.length (LN.cs ps) rfl (hown.alloc _) ⟨(wo).heap.size, 0, none⟩ 1 1 (LN.C y ((al, kl), (ap, kp))) rfl rfl (World.news_of_block (heap_alloc_new (wo) _)) (one_LN _ _) (by unfold maxLen; (try rw [List.length_append]); (try simp only [List.length_cons, List.length_nil]); omega) (by (try rw [List.length_append]); (try simp only [List.length_cons, List.length_nil]); omega) (by have := HF2.out.size; simp at this ⊢; omega) ?_; intro v5 w5 hown5 hgrow _ _)
    have HF5 := Lib.hid (show Fuw W w5 from Below.grown (HF2.out.alloc _) hgrow (HF2.out.alloc _).size (fun k hk => (hown.lt k hk).1))
    have hown6 : w5.ownsRow W.heap.size 51 3 v5 (ps ++ [(y, ((al, kl), (ap, kp)))]).length (LN.cs (ps ++ [(y, ((al, kl), (ap, kp)))])) := by
     rw [LN.cs_app, LN.cs_one, List.length_append]; exact hown5
    clear hown5 hgrow hown hw2
    clear n0 n1 n2 g0 g1 g2 g3
    generalize hps2 : ps ++ [(y, ((al, kl), (ap, kp)))] = ps2 at *
    have HU2 := Lib.hid (show U = ps2.map Prod.fst from by rw [HQ.out, hd0, ← hps2, List.map_append]; rfl)
    replace HK := Lib.hid (show NOk w ps2 from by rw [← hps2]; exact HK.out.snoc HJ.out.1 HJ.out.2)
    clear hps2 hd0 HQ HF HF2
    have HF := HF5
    have hown := hown6
    clear HF5 hown6
    generalize w5 = wq at *
    generalize v5 = u5 at *
    have HX := Lib.hid (show ∀ X : World, (∀ k, W.heap.size ≤ k → X.heap[k]? = wq.heap[k]?) → Fuw w X → ∃ a c, u5 = .slice a U.length c ∧ SlN X a U c from fun X hx hf => by
     have hox : X.ownsRow W.heap.size 51 3 u5 ps2.length (LN.cs ps2) := own_heap hown fun k hk => hx k (hown.lt k hk).1
     obtain ⟨a, c, e, -, hs⟩ := Lay.sl_own (Y := LN) hox (fun p hp => (HK.out p hp).1) (fun p hp => LNJ_on (HK.out p hp).2 hf)
     have hu : ps2.map Prod.fst = U := HU2.out.symm
     rw [hu] at hs
     exact ⟨a, c, by rw [e, ← hu, List.length_map], hs⟩)
    obtain ⟨a, c, e5, -⟩ := HX.out wq (fun _ _ => rfl) (HFW.out.trans HF.out)
    subst e5
    have HGQ := Lib.hid (HG.out.on HF.out)
    have HZQ := Lib.hid (HZ.out.on HF.out)
    have g0 := HGQ.out.c 0; have g1 := HGQ.out.c 1; have g2 := HGQ.out.c 2; have g3 := HGQ.out.c 3
    have n0 := (HN.out.on HF.out).c 0
    have f0 := HGQ.out.f 0; have f1 := HGQ.out.f 1; have f2 := HGQ.out.f 2; have f3 := HGQ.out.f 3
    have z0 := HZQ.out.c 0; have z1 := HZQ.out.c 1; have z2 := HZQ.out.c 2; have z3 := HZQ.out.c 3
    have y0 := HZQ.out.f 0; have y1 := HZQ.out.f 1; have y2 := HZQ.out.f 2; have y3 := HZQ.out.f 3
    clear hown
    go_wp2
    refine g_ret rfl rfl ((((((HZQ.out.far (show w.heap.size + 1 + 1 ≠ w.heap.size by omega) _).far (show w.heap.size + 1 + 1 ≠ w.heap.size by omega) _).set_ 0 _).set_ 1 _).set_ 2 _).set_ 3 _) ?_
    have hws := HWS.out
    have hb : w.heap.size ≤ w.heap.size + 1 + 1 := by omega
    obtain ⟨a', c', e', hs⟩ := HX.out _ (fun k hk => (Below.heap_setCell _ ⟨w.heap.size + 1 + 1, 3, none⟩ _ k (show k ≠ w.heap.size + 1 + 1 by omega)).trans ((Below.heap_setCell _ ⟨w.heap.size + 1 + 1, 2, none⟩ _ k (show k ≠ w.heap.size + 1 + 1 by omega)).trans ((Below.heap_setCell _ ⟨w.heap.size + 1 + 1, 1, none⟩ _ k (show k ≠ w.heap.size + 1 + 1 by omega)).trans ((Below.heap_setCell _ ⟨w.heap.size + 1 + 1, 0, none⟩ _ k (show k ≠ w.heap.size + 1 + 1 by omega)).trans ((Below.heap_setCell _ ⟨w.heap.size, 2, none⟩ _ k (show k ≠ w.heap.size by omega)).trans (Below.heap_setCell _ ⟨w.heap.size, 0, none⟩ _ k (show k ≠ w.heap.size by omega))))))) (fuwS (fuwS (fuwS (fuwS (fuwS (fuwS (HFW.out.trans HF.out) (Nat.le_refl _)) (Nat.le_refl _)) hb) hb) hb) hb)
    injection e' with e1 _ e2
    subst e1 e2
    exact ⟨a, c, rfl, hs, fuwS (fuwS (fuwS (fuwS (fuwS (fuwS (HFW.out.trans HF.out) (Nat.le_refl _)) (Nat.le_refl _)) hb) hb) hb) hb⟩
end Go.Proofs.YtpamdlkagmlahaaGreatDoor
