/-
  StA; StB: texts of one kind in one file; each part says what it holds.
-/
import Derived.Test.YtpamdlkagmlahaaGreatDoorK06
import Derived.Test.YtpamdlkagmlahaaGreatDoorK21
import Derived.Test.YtpamdlkagmlahaaGreatDoorK22
import Derived.Deep.RegionHeld3
import Derived.Test.YtpamdlkagmlahaaGreatDoorK36

set_option maxHeartbeats 6400000
set_option maxRecDepth 100000
namespace Go.Proofs.YtpamdlkagmlahaaGreatDoor
open Go.RowKit
theorem rstep_any (e : Ed) (ap : Option Addr) (cp : Nat) (id dir : Int) (w : World) :
  Calls Tryz.prog 183 #[edv e ap cp, .int .i64 id, .int .i64 dir] w (fun x w' => ∃ u v, x = .returned (.tuple #[.agg #[.int .i64 u, .int .i64 (acrN e id dir), .int .i64 v], .bool (acrV e id dir).isSome]) ∧ ((acrV e id dir).isSome = true → u = id ∧ v = e.id) ∧ Fuw w w') := by
 have HV := Lib.hid (show acrV e id dir = if (dir = 1 ∨ dir = 3) ∧ e.fr = id then some e.to else if (dir = 2 ∨ dir = 3) ∧ e.to = id then some e.fr else none from rfl)
 unfold acrN edv
 generalize acrV e id dir = V at *
 generalize e.fr = f at *
 generalize e.to = t at *
 generalize e.id = m at *
 have hd : dir = 1 ∨ dir = 2 ∨ dir = 3 ∨ (¬ dir = 1 ∧ ¬ dir = 2 ∧ ¬ dir = 3) := by omega
 rcases hd with rfl | rfl | rfl | ⟨d1, d2, d3⟩
 all_goals
  by_cases hf : f = id
  all_goals
   by_cases ht : t = id
   all_goals
    have HW := HV.out
    simp [*] at HW
    subst HW
    clear HV
    (try have hf' : (f == id) = false := beq_eq_false_iff_ne.2 hf)
    (try have ht' : (t == id) = false := beq_eq_false_iff_ne.2 ht)
    (try have hf'' : (f == id) = true := by rw [hf]; simp)
    (try have ht'' : (t == id) = true := by rw [ht]; simp)
    (try have e1 : (dir == 1) = false := beq_eq_false_iff_ne.2 d1)
    (try have e2 : (dir == 2) = false := beq_eq_false_iff_ne.2 d2)
    (try have e3 : (dir == 3) = false := beq_eq_false_iff_ne.2 d3)
    have HF := Lib.hid hf
    have HT := Lib.hid ht
    clear hf ht
    go_enter Tryz.func183, Tryz.ntmps183
    go_wp2
    exact j_ret rfl rfl rfl (bk2 _ _ _ _) ⟨_, _, ret_j (by first | rfl | exact HT.out | exact HF.out), (by first | exact fun _ => ⟨rfl, rfl⟩ | (exact fun h => (by cases h))), ((Fuw.refl w).alloc _).alloc _⟩
def holeL (L : List (Int × Int)) (k : Nat) (y : Int × Int) : List (Int × Int) := L.take k ++ y :: L.drop k
theorem hole_len (L : List (Int × Int)) (k : Nat) (y : Int × Int) : (holeL L k y).length = L.length + 1 := by
 unfold holeL
 rw [List.length_append, List.length_cons, List.length_take, List.length_drop]
 omega
theorem hole_end (L : List (Int × Int)) (a : Int × Int) : L ++ [a] = holeL L L.length a := by
 unfold holeL
 rw [List.take_length, List.drop_length]
theorem hole_at (L : List (Int × Int)) (k : Nat) (y : Int × Int) (h : k ≤ L.length) : (holeL L k y)[k]? = some y := by
 unfold holeL
 rw [List.getElem?_append_right (by rw [List.length_take]; omega), List.length_take, Nat.min_eq_left h, Nat.sub_self]; rfl
theorem hole_before (L : List (Int × Int)) (k : Nat) (y : Int × Int) (p : Nat) (h : p < k) (hk : k ≤ L.length) : (holeL L k y)[p]? = L[p]? := by
 unfold holeL
 rw [List.getElem?_append_left (by rw [List.length_take]; omega), List.getElem?_take_of_lt h]
theorem hole_set (L : List (Int × Int)) (k : Nat) (y z : Int × Int) (h : k ≤ L.length) : (holeL L k y).set k z = holeL L k z := by
 unfold holeL
 rw [List.set_append_right _ _ (by rw [List.length_take]; omega), List.length_take, Nat.min_eq_left h, Nat.sub_self]; rfl
theorem hole_down (L : List (Int × Int)) (p : Nat) (h : p < L.length) : holeL L (p + 1) L[p] = holeL L p L[p] := by
 unfold holeL
 rw [List.take_succ_eq_append_getElem h, List.append_assoc, List.drop_eq_getElem_cons h]
 rfl
theorem hole_srt (L : List (Int × Int)) (k : Nat) (a : Int × Int) (hs : SrtP L) (hk : k ≤ L.length) (h1 : ∀ (p : Nat) (hp : p < L.length), k = p + 1 → adjL a L[p] = false) (h2 : ∀ x ∈ L.drop k, adjL a x = true) : SrtP (holeL L k a) ∧ (holeL L k a).Perm (L ++ [a]) := by
 have e : L = L.take k ++ L.drop k := (List.take_append_drop k L).symm
 constructor
 ·unfold SrtP holeL
  unfold SrtP at hs
  have hs2 := hs
  rw [e] at hs2
  obtain ⟨s1, s2, s3⟩ := List.pairwise_append.1 hs2
  refine List.pairwise_append.2 ⟨s1, List.pairwise_cons.2 ⟨fun x hx => adjL_asym (h2 x hx), s2⟩, fun x hx y hy => ?_⟩
  rcases List.mem_cons.1 hy with rfl | hy
  ·obtain ⟨j, hj, rfl⟩ := List.getElem_of_mem hx
   rw [List.length_take] at hj
   rw [List.getElem_take]
   have hp : k - 1 < L.length := by omega
   have hl := h1 (k - 1) hp (by omega)
   rcases Nat.lt_or_eq_of_le (show j ≤ k - 1 by omega) with g | g
   ·exact adjL_trans (List.pairwise_iff_getElem.1 hs j (k - 1) (by omega) hp g) hl
   ·subst g; exact hl
  ·exact s3 x hx y hy
 ·unfold holeL
  have p1 : (L.take k ++ a :: L.drop k).Perm (a :: (L.take k ++ L.drop k)) := List.perm_middle
  rw [← e] at p1
  have p2 : (L ++ [a]).Perm (a :: L) := List.perm_append_comm
  exact p1.trans p2.symm
theorem aC_set (id : Int) : ∀ (L : List (Int × Int)) (k : Nat) (y : Int × Int), k < L.length → (((aC id L).set (k * 3) (.int .i64 id)).set (k * 3 + 1) (.int .i64 y.1)).set (k * 3 + 2) (.int .i64 y.2) = aC id (L.set k y)
 | x :: r, 0, y, _ => rfl
 | x :: r, k + 1, y, h => by
  have e1 : (k + 1) * 3 = k * 3 + 1 + 1 + 1 := by omega
  have e2 : (k + 1) * 3 + 1 = k * 3 + 1 + 1 + 1 + 1 := by omega
  have e3 : (k + 1) * 3 + 2 = k * 3 + 2 + 1 + 1 + 1 := by omega
  have ih := aC_set id r k y (by simpa using h)
  show (((aE id x ++ aC id r).set ((k + 1) * 3) _).set ((k + 1) * 3 + 1) _).set ((k + 1) * 3 + 2) _ = aE id x ++ aC id (r.set k y)
  rw [e3, e2, e1, ← ih]
  rfl
theorem own_put {w : World} {base g cap n : Nat} {id : Int} {L : List (Int × Int)} {k : Nat} {y : Int × Int} (h : w.ownsRow base 189 3 (.slice (some ⟨g, 0, none⟩) n cap) n (aC id L)) (hk : k < L.length) :
  (((w.setCell ⟨g, k * 3, none⟩ (.int .i64 id)).setCell ⟨g, k * 3 + 1, none⟩ (.int .i64 y.1)).setCell ⟨g, k * 3 + 2, none⟩ (.int .i64 y.2)).ownsRow base 189 3 (.slice (some ⟨g, 0, none⟩) n cap) n (aC id (L.set k y)) := by
 have h1 := ((((h.stored (k * 3) (.int .i64 id)).1).stored (k * 3 + 1) (.int .i64 y.1)).1.stored (k * 3 + 2) (.int .i64 y.2)).1
 rwa [aC_set id L k y hk] at h1
theorem own_hole {w : World} {base g cap n : Nat} {id : Int} {L : List (Int × Int)} {k p : Nat} {y z : Int × Int} (h : w.ownsRow base 189 3 (.slice (some ⟨g, 0, none⟩) n cap) n (aC id (holeL L k y))) (hk : k ≤ L.length) (e : holeL L k z = holeL L p z) :
  (((w.setCell ⟨g, k * 3, none⟩ (.int .i64 id)).setCell ⟨g, k * 3 + 1, none⟩ (.int .i64 z.1)).setCell ⟨g, k * 3 + 2, none⟩ (.int .i64 z.2)).ownsRow base 189 3 (.slice (some ⟨g, 0, none⟩) n cap) n (aC id (holeL L p z)) := by
 have q := own_put (y := z) h (show k < (holeL L k y).length by rw [hole_len]; omega)
 rwa [hole_set _ _ _ _ hk, e] at q
theorem own_at3 {w : World} {base g cap n : Nat} {id : Int} {L : List (Int × Int)} {k : Nat} {y : Int × Int} (h : w.ownsRow base 189 3 (.slice (some ⟨g, 0, none⟩) n cap) n (aC id L)) (hn : n = L.length) (hy : L[k]? = some y) :
  w.cell? ⟨g, k * 3, none⟩ = some (.int .i64 id) ∧ w.cell? ⟨g, k * 3 + 1, none⟩ = some (.int .i64 y.1) ∧ w.cell? ⟨g, k * 3 + 2, none⟩ = some (.int .i64 y.2) := by
 obtain ⟨hk, e⟩ := List.getElem?_eq_some_iff.1 hy
 subst hn
 have q : ∀ c, c < 3 → w.cell? ⟨g, k * 3 + c, none⟩ = (aE id L[k])[c]? := fun c hc => by
  rw [h.cellAt (k * 3 + c) (by omega), aC_get id L k c hc hk]
 rw [e] at q
 exact ⟨q 0 (by decide), q 1 (by decide), q 2 (by decide)⟩
theorem own_formJ {w : World} {base e size n : Nat} {v : Value} {xs : List Value} (h : w.ownsRow base e size v n xs) : ∃ A c, v = .slice A n c := by
 rcases h.2 with ⟨rfl, rfl⟩ | ⟨g, cap, cur, rfl, -⟩
 ·exact ⟨_, _, rfl⟩
 ·exact ⟨_, _, rfl⟩
theorem rsteps_any (g : Gr) (an ae : Option Addr) (cn ce : Nat) (id : Int) (ts : List (List UInt8)) (at_ : Option Addr) (ct : Nat) (dir : Int) (w : World) (hg : GIn w g an ae cn ce) (ht : SlS w at_ ts ct) (hn : g.es.length ≤ 10000) :
  Calls Tryz.prog 131 #[grv g an ae cn ce, .int .i64 id, .slice at_ ts.length ct, .int .i64 dir] w (RetJ w id (adjV g.es id ts dir)) := by
 have hb0 := GB.new w g an ae cn ce
 have f0 := fuwA w (.cells #[.slice an g.ns.length cn, .slice ae g.es.length ce, .int .i64 g.nn, .int .i64 g.ne] 25)
 obtain ⟨U, hU⟩ : ∃ U, U = stpV g.es id ts dir := ⟨_, rfl⟩
 have HU := Lib.hid (show ∃ P, stpV g.es id ts dir = P ++ stpV (g.es.drop 0) id ts dir ∧ ([] : List (Int × Int)).Perm P ∧ SrtP [] from ⟨[], rfl, List.Perm.refl _, List.Pairwise.nil⟩)
 unfold adjV
 rw [← hU] at HU ⊢
 unfold grv
 obtain ⟨w0, hw0⟩ : ∃ w0, w0 = w.alloc (.cells #[.slice an g.ns.length cn, .slice ae g.es.length ce, .int .i64 g.nn, .int .i64 g.ne] 25) := ⟨_, rfl⟩
 rw [← hw0] at f0 hb0
 have HW0 := Lib.hid hw0
 have F0 := Lib.hid f0
 have HB := Lib.hid hb0
 have HE := Lib.hid (slE_on f0 hg.e)
 have HT := Lib.hid (slS_on f0 ht)
 have nt := ht.len
 obtain ⟨i0, hi, hz0, hz1, hz2⟩ := info_parts infoJ
 clear hw0 f0 hb0 hg ht hU
 go_enter Tryz.func131, Tryz.ntmps131
 go_wp2
 go_loopw [9, 10] (fun lv iv wr => ∃ (i : Nat) (L : List (Int × Int)), iv = .int .i64 i ∧ i ≤ g.es.length ∧ L.length ≤ i ∧ wr.ownsRow w0.heap.size 189 3 lv L.length (aC id L) ∧ Hid (∃ P, U = P ++ stpV (g.es.drop i) id ts dir ∧ L.Perm P ∧ SrtP L) ∧ Hid (Fuw w0 wr)) (fun _ iv _ => g.es.length - (RowKit.intOf iv).toNat)
 case atStart => exact ⟨0, [], rfl, Nat.zero_le _, Nat.le_refl _, World.ownsRow_nil _ _ _ _, HU, by rw [HW0.out]; exact Fuw.refl _⟩
 case round =>
  obtain ⟨i, L, rfl, hii, hL, hown, HQ, hf⟩ := hrel
  obtain ⟨A, cA, rfl⟩ := own_formJ hown
  have q1 := (HB.out.on hf.out).c1
  by_cases hlt : i < g.es.length
  ·obtain ⟨b, o, rfl, i1, i2, i3, hty, c0, c1, c2, c3, ap, cp, c4, hsp⟩ := (slE_on hf.out HE.out).get hlt
   have HA := Lib.hid (stp_drop g.es id ts dir i hlt)
   have HC := Lib.hid (fun w' => rstep_any g.es[i] ap cp id dir w')
   have HH := Lib.hid (fun w' (hf' : Fuw wr w') => rhast_any g.es[i] ap cp ts at_ ct w' (slS_on (hf.out.trans hf') HT.out))
   have HCL := Lib.hid (fun w' (hf' : Fuw wr w') => (⟨cellOnw hf' c0, cellOnw hf' c1, cellOnw hf' c2, cellOnw hf' c3, cellOnw hf' c4, cellOnw hf' q1⟩ : _ ∧ _ ∧ _ ∧ _ ∧ _ ∧ _))
   unfold edv at HC HH
   clear i1 i2 i3 hty hsp
   generalize g.es[i] = e at *
   generalize acrN e id dir = a at *
   generalize (acrV e id dir).isSome = q at *
   generalize hasT e.ty ts = t at *
   go_wp2_with fail
   go_at_call 183; refine (HC.out _).mono ?_; rintro e1 w1 ⟨u, v, rfl, huv, f1⟩
   have HUV := Lib.hid huv
   have F1 := Lib.hid f1
   obtain ⟨k0, k1, k2, k3, k4, k5⟩ := HCL.out w1 f1
   clear f1 huv c0 c1 c2 c3 c4 q1
   go_upto_region 6 with fail
   obtain ⟨W, hW⟩ : ∃ W, W = w1.alloc (.cells #[.int .i64 u, .int .i64 a, .int .i64 v] 189) := ⟨_, rfl⟩
   have hfW : Fuw w1 W := by rw [hW]; exact fuwA _ _
   have hBn : Bk W w1.heap.size #[.int .i64 u, .int .i64 a, .int .i64 v] 189 := by rw [hW]; exact Bk.new _ _ _
   rw [← hW]
   clear hW k0 k1 k2 k3 k4 k5
   have F2 := Lib.hid (F1.out.trans hfW)
   have HBn := Lib.hid hBn
   have hown2 := own_on hown F2.out
   have HF2 := Lib.hid (hf.out.trans F2.out)
   have hlt1 := hBn.lt
   have hob := hown.lt
   have HOB := Lib.hid hob
   clear hob
   clear hown hfW hBn
   cases q
   ·have HZ := Lib.hid (show ∃ P, U = P ++ stpV (g.es.drop (i + 1)) id ts dir ∧ L.Perm P ∧ SrtP L from by
     obtain ⟨P, e1, e2, e3⟩ := HQ.out
     exact ⟨P, by rw [e1, HA.out, Bool.and_false]; rfl, e2, e3⟩)
    go_wp2
    go_roundw
    case rel => exact ⟨i + 1, L, by go_num, by omega, by omega, hown2, HZ, HF2⟩
    case measure => simp [RowKit.intOf]; omega
   ·obtain ⟨k0, k1, k2, k3, k4, k5⟩ := HCL.out W F2.out
    go_wp2_with fail
    go_at_call 184; refine (HH.out _ F2.out).mono ?_; rintro e2 w2 ⟨rfl, f2⟩
    have HF3 := Lib.hid (HF2.out.trans f2)
    have hBn3 := HBn.out.on f2
    have HB3 := Lib.hid hBn3
    have hown3 := own_on hown2 f2
    clear hown2 k0 k1 k2 k3 k4 k5 f2
    cases t
    ·have HZ := Lib.hid (show ∃ P, U = P ++ stpV (g.es.drop (i + 1)) id ts dir ∧ L.Perm P ∧ SrtP L from by
      obtain ⟨P, e1, e2, e3⟩ := HQ.out
      exact ⟨P, by rw [e1, HA.out]; rfl, e2, e3⟩)
     clear hBn3
     go_wp2
     go_roundw
     case rel => exact ⟨i + 1, L, by go_num, by omega, by omega, hown3, HZ, HF3⟩
     case measure => simp [RowKit.intOf]; omega
    ·obtain ⟨hu, hv⟩ := HUV.out (by simp)
     replace hu := hu.symm
     subst hu
     subst hv
     have d0 : w2.cell? ⟨w1.heap.size, 0, none⟩ = some (.int .i64 id) := hBn3.c 0
     have d1 : w2.cell? ⟨w1.heap.size, 1, none⟩ = some (.int .i64 a) := hBn3.c 1
     have d2 : w2.cell? ⟨w1.heap.size, 2, none⟩ = some (.int .i64 e.id) := hBn3.c 2
     have hsz := HF3.out.size
     clear hBn3
     go_wp2_with (at_builtin; refine wpList_append_own_at _ rfl (.tmp 46) (.tmp 48) 147 rfl w0.heap.size 189 i0 (.agg #[.int .i64 0, .int .i64 0, .int .i64 0]) 3 24 Tryz.underlying147 hi hz0 hz1 hz2 rfl (by decide) _ L.length (aC id L) rfl (hown3.alloc _) ⟨w2.heap.size, 0, none⟩ 1 1 (aE id (a, e.id)) rfl rfl (World.news_of_block (heap_alloc_new w2 _)) (by intro u hu; simp [aE] at hu; rcases hu with rfl | rfl | rfl <;> rfl) (by unfold maxLen; omega) (by omega) (by simp; omega) ?_; intro v' w5 hown5 hgrow _ hat5)
     obtain ⟨gg, c5, rfl, hgg, hgl⟩ := World.ownsRow.form hown5 (by omega)
     have hne : w1.heap.size ≠ gg := by
      rcases hat5 with h | h
      ·have := (HOB.out gg (show (Value.slice A L.length cA).ownBlock = some gg from h.symm)).2
       have := F1.out.size
       omega
      ·have h' : gg = (w2.alloc (.cells #[.int .i64 id, .int .i64 a, .int .i64 e.id] 189)).heap.size := by simpa [Value.ownBlock] using h
       have := HB3.out.lt
       rw [h']
       simp
       omega
     have F5 := Lib.hid (show Fuw w0 w5 from Below.grown (HF3.out.alloc _) hgrow (HF3.out.alloc _).size (fun k hk => (hown3.lt k hk).1))
     have hB5 : Bk w5 w1.heap.size #[.int .i64 id, .int .i64 a, .int .i64 e.id] 189 := by
      have k1 := HB3.out.on (fuwA w2 (.cells #[.int .i64 id, .int .i64 a, .int .i64 e.id] 189))
      exact (hgrow.block _ k1.lt (fun h => by
       have := (HOB.out w1.heap.size h.symm).2
       have := F1.out.size
       omega)).trans k1
     have HB5 := Lib.hid hB5
     have hown6 : w5.ownsRow w0.heap.size 189 3 (.slice (some ⟨gg, 0, none⟩) (L.length + 1) c5) (L.length + 1) (aC id (holeL L L.length (a, e.id))) := by
      rw [← hole_end, aC_app]; exact hown5
     have HS := Lib.hid (show SrtP L from by obtain ⟨P, -, -, h⟩ := HQ.out; exact h)
     clear hown5 hown3 hgrow hat5 d0 d1 d2 hB5 hsz
     go_loopw [13] (fun kv wx => ∃ (k : Nat) (y : Int × Int), kv = .int .i64 k ∧ k ≤ L.length ∧ wx.ownsRow w0.heap.size 189 3 (.slice (some ⟨gg, 0, none⟩) (L.length + 1) c5) (L.length + 1) (aC id (holeL L k y)) ∧ Hid (∀ x ∈ L.drop k, adjL (a, e.id) x = true) ∧ Hid (Bk wx w1.heap.size #[.int .i64 id, .int .i64 a, .int .i64 e.id] 189) ∧ Hid (Fuw w0 wx)) (fun kv _ => (RowKit.intOf kv).toNat)
     case atStart => exact ⟨L.length, (a, e.id), rfl, Nat.le_refl _, hown6, (fun x hx => by rw [List.drop_length] at hx; cases hx), HB5, F5⟩
     case round =>
      clear hown6
      obtain ⟨k, y, rfl, hk, hownx, HA2, HBx, hfx⟩ := hrel
      have d0 : wr.cell? ⟨w1.heap.size, 0, none⟩ = some (.int .i64 id) := HBx.out.c 0
      have d1 : wr.cell? ⟨w1.heap.size, 1, none⟩ = some (.int .i64 a) := HBx.out.c 1
      have d2 : wr.cell? ⟨w1.heap.size, 2, none⟩ = some (.int .i64 e.id) := HBx.out.c 2
      rcases Nat.eq_zero_or_pos k with hk0 | hk0
      ·have hd : decide (0 < k) = false := decide_eq_false (by omega)
       have H1 := Lib.hid (show ∀ (p : Nat) (hp : p < L.length), k = p + 1 → adjL (a, e.id) L[p] = false from fun p hp h => by omega)
       clear hk0
       go_wp2
       go_quiet (fail)
       clear hd
       have h3 := own_at3 hownx (by rw [hole_len]) (hole_at L k y hk)
       obtain ⟨z0, z1, z2⟩ := h3
       have g0 := hownx.frozenAt (k * 3); have g1 := hownx.frozenAt (k * 3 + 1); have g2 := hownx.frozenAt (k * 3 + 2)
       have HP := Lib.hid (fun n => own_hole (z := (a, e.id)) (own_on hownx (fuw_dr wr n)) hk rfl)
       have HS2 := Lib.hid (hole_srt L k (a, e.id) HS.out hk H1.out HA2.out)
       have HF5 := Lib.hid (fun n => fuwS (fuwS (fuwS (hfx.out.trans (fuw_dr wr n)) hgg (j := k * 3) (u := .int .i64 id)) hgg (j := k * 3 + 1) (u := .int .i64 a)) hgg (j := k * 3 + 2) (u := .int .i64 e.id))
       have HZ := Lib.hid (show ∃ P, U = P ++ stpV (g.es.drop (i + 1)) id ts dir ∧ (holeL L k (a, e.id)).Perm P ∧ SrtP (holeL L k (a, e.id)) from by
        obtain ⟨P, r1, r2, -⟩ := HQ.out
        exact ⟨P ++ [(a, e.id)], by rw [r1, HA.out, List.append_assoc]; rfl, HS2.out.2.trans (r2.append_right _), HS2.out.1⟩)
       have HLN := Lib.hid (hole_len L k (a, e.id))
       clear hownx
       go_wp2
       go_roundw
       case rel => exact ⟨i + 1, holeL L k (a, e.id), by go_num, by omega, by rw [HLN.out]; omega, by rw [HLN.out]; exact HP.out _, HZ, HF5.out _⟩
       case measure => simp [RowKit.intOf]; omega
      ·obtain ⟨p, hp⟩ : ∃ p, k = p + 1 := ⟨k - 1, by omega⟩
       have HPK := Lib.hid hp
       have hkp1 : k ≤ p + 1 := by omega
       have hkp2 : p + 1 ≤ k := by omega
       clear hp
       have hpl : p < L.length := by omega
       obtain ⟨x1, x2, hx⟩ : ∃ x1 x2, L[p] = (x1, x2) := ⟨L[p].1, L[p].2, rfl⟩
       have hb := hole_before L k y p (by omega) hk
       rw [List.getElem?_eq_getElem hpl, hx] at hb
       obtain ⟨m0, m1, m2⟩ := own_at3 hownx (by rw [hole_len]) hb
       have HJ := Lib.hid (show adjL (a, e.id) L[p] = (decide (a < x1) || (decide (a = x1) && decide (e.id < x2))) by rw [hx]; rfl)
       have HX := Lib.hid hx
       have hw1 : IntKind.i64.wrap ((k : Int) - 1) = (p : Int) := by rw [show (k : Int) - 1 = p by omega]; exact IntWalk.i64_in _ (by omega)
       have hw2 : (0 : Int) ≤ (p : Int) := by omega
       have hw3 : (p : Int) < (L.length : Int) + 1 := by omega
       have hd : decide (0 < k) = true := decide_eq_true hk0
       clear hb hx hk0
       by_cases hj : adjL (a, e.id) L[p] = true
       ·have HDW := Lib.hid (show holeL L k (x1, x2) = holeL L p (x1, x2) by rw [HPK.out, ← HX.out]; exact hole_down L p hpl)
        have HA3 := Lib.hid (show ∀ x ∈ L.drop p, adjL (a, e.id) x = true from fun x hx => by
         rw [List.drop_eq_getElem_cons hpl] at hx
         rcases List.mem_cons.1 hx with rfl | h
         ·exact hj
         ·exact HA2.out x (by rw [HPK.out]; exact h))
        rw [HJ.out] at hj
        by_cases t1 : a < x1
        ·have e1 : decide (a < x1) = true := decide_eq_true t1
         clear t1 hj
         go_wp2
         go_quiet (fail)
         clear hd hw1 e1
         have h3 := own_at3 hownx (by rw [hole_len]) (hole_at L k y hk)
         obtain ⟨z0, z1, z2⟩ := h3
         have g0 := hownx.frozenAt (k * 3); have g1 := hownx.frozenAt (k * 3 + 1); have g2 := hownx.frozenAt (k * 3 + 2)
         have HP := Lib.hid (fun n => own_hole (z := (x1, x2)) (own_on hownx (fuw_dr wr n)) hk HDW.out)
         have HF5 := Lib.hid (fun n => fuwS (fuwS (fuwS (hfx.out.trans (fuw_dr wr n)) hgg (j := k * 3) (u := .int .i64 id)) hgg (j := k * 3 + 1) (u := .int .i64 x1)) hgg (j := k * 3 + 2) (u := .int .i64 x2))
         have HB5 := Lib.hid (fun n => ((((HBx.out.on (fuw_dr wr n)).far (p := ⟨gg, k * 3, none⟩) hne (.int .i64 id)).far (p := ⟨gg, k * 3 + 1, none⟩) hne (.int .i64 x1)).far (p := ⟨gg, k * 3 + 2, none⟩) hne (.int .i64 x2)))
         have hh : (k : Int) - 1 = (p : Int) := by omega
         clear hownx
         go_wp2
         go_roundw
         case rel => exact ⟨p, (x1, x2), rfl, by omega, HP.out _, HA3, HB5.out _, HF5.out _⟩
         case measure => simp [RowKit.intOf]; omega
        ·have t2 : a = x1 := by simpa [t1] using (show decide (a = x1) = true from by
          rw [decide_eq_false t1, Bool.false_or, Bool.and_eq_true] at hj
          exact hj.1)
         have t3 : e.id < x2 := by
          rw [decide_eq_false t1, Bool.false_or, Bool.and_eq_true] at hj
          exact of_decide_eq_true hj.2
         have e1 : decide (a < x1) = false := decide_eq_false t1
         have e2 : (a == x1) = true := by rw [t2]; simp
         have e3 : decide (e.id < x2) = true := decide_eq_true t3
         clear t1 t2 t3 hj
         go_wp2
         go_quiet (fail)
         clear hd hw1 e1 e2 e3
         have h3 := own_at3 hownx (by rw [hole_len]) (hole_at L k y hk)
         obtain ⟨z0, z1, z2⟩ := h3
         have g0 := hownx.frozenAt (k * 3); have g1 := hownx.frozenAt (k * 3 + 1); have g2 := hownx.frozenAt (k * 3 + 2)
         have HP := Lib.hid (fun n => own_hole (z := (x1, x2)) (own_on hownx (fuw_dr wr n)) hk HDW.out)
         have HF5 := Lib.hid (fun n => fuwS (fuwS (fuwS (hfx.out.trans (fuw_dr wr n)) hgg (j := k * 3) (u := .int .i64 id)) hgg (j := k * 3 + 1) (u := .int .i64 x1)) hgg (j := k * 3 + 2) (u := .int .i64 x2))
         have HB5 := Lib.hid (fun n => ((((HBx.out.on (fuw_dr wr n)).far (p := ⟨gg, k * 3, none⟩) hne (.int .i64 id)).far (p := ⟨gg, k * 3 + 1, none⟩) hne (.int .i64 x1)).far (p := ⟨gg, k * 3 + 2, none⟩) hne (.int .i64 x2)))
         have hh : (k : Int) - 1 = (p : Int) := by omega
         clear hownx
         go_wp2
         go_roundw
         case rel => exact ⟨p, (x1, x2), rfl, by omega, HP.out _, HA3, HB5.out _, HF5.out _⟩
         case measure => simp [RowKit.intOf]; omega
       ·have hj' : adjL (a, e.id) L[p] = false := by simpa using hj
        have H1 := Lib.hid (show ∀ (p : Nat) (hp : p < L.length), k = p + 1 → adjL (a, e.id) L[p] = false from fun p2 hp2 h => by
         obtain rfl : p2 = p := by omega
         exact hj')
        rw [HJ.out] at hj'
        clear hj
        have t1 : ¬ a < x1 := fun h => by rw [decide_eq_true h] at hj'; simp at hj'
        have e1 : decide (a < x1) = false := decide_eq_false t1
        by_cases t2 : a = x1
        ·have t3 : ¬ e.id < x2 := fun h => by rw [decide_eq_true h, decide_eq_true t2] at hj'; simp at hj'
         have e2 : (a == x1) = true := by rw [t2]; simp
         have e3 : decide (e.id < x2) = false := decide_eq_false t3
         clear t1 t2 t3 hj'
         go_wp2
         go_quiet (fail)
         clear hd hw1 e1 e2 e3
         have h3 := own_at3 hownx (by rw [hole_len]) (hole_at L k y hk)
         obtain ⟨z0, z1, z2⟩ := h3
         have g0 := hownx.frozenAt (k * 3); have g1 := hownx.frozenAt (k * 3 + 1); have g2 := hownx.frozenAt (k * 3 + 2)
         have HP := Lib.hid (fun n => own_hole (z := (a, e.id)) (own_on hownx (fuw_dr wr n)) hk rfl)
         have HS2 := Lib.hid (hole_srt L k (a, e.id) HS.out hk H1.out HA2.out)
         have HF5 := Lib.hid (fun n => fuwS (fuwS (fuwS (hfx.out.trans (fuw_dr wr n)) hgg (j := k * 3) (u := .int .i64 id)) hgg (j := k * 3 + 1) (u := .int .i64 a)) hgg (j := k * 3 + 2) (u := .int .i64 e.id))
         have HZ := Lib.hid (show ∃ P, U = P ++ stpV (g.es.drop (i + 1)) id ts dir ∧ (holeL L k (a, e.id)).Perm P ∧ SrtP (holeL L k (a, e.id)) from by
          obtain ⟨P, r1, r2, -⟩ := HQ.out
          exact ⟨P ++ [(a, e.id)], by rw [r1, HA.out, List.append_assoc]; rfl, HS2.out.2.trans (r2.append_right _), HS2.out.1⟩)
         have HLN := Lib.hid (hole_len L k (a, e.id))
         clear hownx
         go_wp2
         go_roundw
         case rel => exact ⟨i + 1, holeL L k (a, e.id), by go_num, by omega, by rw [HLN.out]; omega, by rw [HLN.out]; exact HP.out _, HZ, HF5.out _⟩
         case measure => simp [RowKit.intOf]; omega
        ·have e2 : (a == x1) = false := beq_eq_false_iff_ne.2 t2
         clear t1 t2 hj'
         go_wp2
         go_quiet (fail)
         clear hd hw1 e1 e2
         have h3 := own_at3 hownx (by rw [hole_len]) (hole_at L k y hk)
         obtain ⟨z0, z1, z2⟩ := h3
         have g0 := hownx.frozenAt (k * 3); have g1 := hownx.frozenAt (k * 3 + 1); have g2 := hownx.frozenAt (k * 3 + 2)
         have HP := Lib.hid (fun n => own_hole (z := (a, e.id)) (own_on hownx (fuw_dr wr n)) hk rfl)
         have HS2 := Lib.hid (hole_srt L k (a, e.id) HS.out hk H1.out HA2.out)
         have HF5 := Lib.hid (fun n => fuwS (fuwS (fuwS (hfx.out.trans (fuw_dr wr n)) hgg (j := k * 3) (u := .int .i64 id)) hgg (j := k * 3 + 1) (u := .int .i64 a)) hgg (j := k * 3 + 2) (u := .int .i64 e.id))
         have HZ := Lib.hid (show ∃ P, U = P ++ stpV (g.es.drop (i + 1)) id ts dir ∧ (holeL L k (a, e.id)).Perm P ∧ SrtP (holeL L k (a, e.id)) from by
          obtain ⟨P, r1, r2, -⟩ := HQ.out
          exact ⟨P ++ [(a, e.id)], by rw [r1, HA.out, List.append_assoc]; rfl, HS2.out.2.trans (r2.append_right _), HS2.out.1⟩)
         have HLN := Lib.hid (hole_len L k (a, e.id))
         clear hownx
         go_wp2
         go_roundw
         case rel => exact ⟨i + 1, holeL L k (a, e.id), by go_num, by omega, by rw [HLN.out]; omega, by rw [HLN.out]; exact HP.out _, HZ, HF5.out _⟩
         case measure => simp [RowKit.intOf]; omega
  ·have HZ := Lib.hid (show L = srtV U from by
    obtain ⟨P, r1, r2, r3⟩ := HQ.out
    rw [stp_end _ _ _ _ _ (by omega), List.append_nil] at r1
    subst r1
    exact srtV_of r3 r2)
   obtain ⟨ao, cap, hv, -, hS⟩ := slJ_own hown
   have HS1 := Lib.hid hS
   have HV := Lib.hid hv
   clear hown hS hv
   go_wp2
   go_ret
   exact ⟨ao, cap, by rw [← HZ.out, ← HV.out]; rfl, by rw [← HZ.out]; exact HS1.out, F0.out.trans hf.out⟩
end Go.Proofs.YtpamdlkagmlahaaGreatDoor

namespace Go.Proofs.YtpamdlkagmlahaaGreatDoor
open Go.RowKit
theorem stp_use (id : Int) : ∀ es : List Ed, decide (0 < (stpV es id [] 3).length) = useV es id
 | [] => rfl
 | e :: r => by
  have ih := stp_use id r
  have hu : useV (e :: r) id = ((e.fr == id || e.to == id) || useV r id) := rfl
  have hs : stpV (e :: r) id [] 3 = (match (acrV e id 3).map fun t => (t, e.id) with | none => stpV r id [] 3 | some b => b :: stpV r id [] 3) := by
   unfold stpV
   rw [List.filterMap_cons, if_pos (show hasT e.ty [] = true from rfl)]
   cases (acrV e id 3).map fun t => (t, e.id) <;> rfl
  rw [hu, hs]
  unfold acrV
  by_cases h1 : e.fr = id
  ·rw [if_pos ⟨.inr rfl, h1⟩]
   simp [h1]
  ·rw [if_neg (fun q => h1 q.2)]
   by_cases h2 : e.to = id
   ·rw [if_pos ⟨.inr rfl, h2⟩]
    simp [h2]
   ·rw [if_neg (fun q => h2 q.2)]
    have b1 : (e.fr == id) = false := beq_eq_false_iff_ne.2 h1
    have b2 : (e.to == id) = false := beq_eq_false_iff_ne.2 h2
    rw [b1, b2]
    simpa using ih
theorem rused_any (g : Gr) (an ae : Option Addr) (cn ce : Nat) (id : Int) (w : World) (hg : GIn w g an ae cn ce) (hn : g.es.length ≤ 10000) :
  Calls Tryz.prog 93 #[grv g an ae cn ce, .int .i64 id] w (FwB w (useV g.es id)) := by
 obtain ⟨W, hW⟩ : ∃ W, W = w.alloc (.cells #[.slice an g.ns.length cn, .slice ae g.es.length ce, .int .i64 g.nn, .int .i64 g.ne] 25) := ⟨_, rfl⟩
 have fW : Fuw w W := by rw [hW]; exact fuwA _ _
 have hB : Bk W w.heap.size #[.slice an g.ns.length cn, .slice ae g.es.length ce, .int .i64 g.nn, .int .i64 g.ne] 25 := by rw [hW]; exact Bk.new _ _ _
 have HS := Lib.hid (show Calls Tryz.prog 131 #[grv g an ae cn ce, .int .i64 id, .slice none 0 0, .int .i64 3] W (RetJ W id (adjV g.es id [] 3)) from
  rsteps_any g an ae cn ce id [] none 0 3 W (hg.on fW) (Sl.empty _) hn)
 have HL := Lib.hid (show decide (0 < (jL id (adjV g.es id [] 3)).length) = useV g.es id from by
  rw [jL_len, adj_len]
  exact stp_use id g.es)
 have HF := Lib.hid fW
 have c0 := hB.c 0; have c1 := hB.c 1; have c2 := hB.c 2; have c3 := hB.c 3
 unfold RetJ at HS
 unfold grv at *
 generalize jL id (adjV g.es id [] 3) = L at *
 generalize useV g.es id = R at *
 clear fW hB hg hn
 go_enter Tryz.func93, Tryz.ntmps93
 go_upto_region 1 with fail
 rw [← hW]
 clear hW
 go_wp2_with fail
 go_at_call 131; refine HS.out.mono ?_; rintro e1 w1 ⟨ao, cap, rfl, -, f1⟩
 have HF1 := Lib.hid (HF.out.trans f1)
 clear f1 HS
 go_wp2
 go_ret
 exact ⟨ret_bool (by rw [← HL.out]), HF1.out⟩
end Go.Proofs.YtpamdlkagmlahaaGreatDoor
