/-
  Package codec: readFields of the kinds that hold no values, and valueAt at its early ends. Nothing that was there turns.
-/
import Derived.Test.YtehmdeponbhhjaaDoorCgU
namespace Go.Proofs.YtehmdeponbhhjaaDoor
open Go.RowKit

/-- The fields of a value that holds none. -/
def flatV (k : Nat) (l : List UInt8) (a : Int) : Rs :=
  if k = 0 then .ok (vk 0) a
  else if k = 3 then
    if (intV l a).2.2 ≠ 0 then .er (intV l a).2.2
    else if (intV l (intV l a).2.1).2.2 ≠ 0 then .er (intV l (intV l a).2.1).2.2
    else .ok (.mk 3 (intV l a).1 (intV l (intV l a).2.1).1 [] []) (intV l (intV l a).2.1).2.1
  else if k = 4 then
    if (strV l a 100).2.2 ≠ 0 then .er (strV l a 100).2.2 else .ok (.mk 4 0 0 (strV l a 100).1 []) (strV l a 100).2.1
  else if (intV l a).2.2 ≠ 0 then .er (intV l a).2.2 else .ok (.mk k (intV l a).1 0 [] []) (intV l a).2.1
theorem vc_set {w : World} {B : Nat} {k n d : Int} {s : List UInt8} {ao : Option Addr} {cap : Nat} {ll : List Vl} (h : w.heap[B]? = some (.cells (vc (.mk k n d s ll) ao cap) 26 (0, 0))) :
    (∀ m : Int, (w.setCell ⟨B, 1, none⟩ (.int .i64 m)).heap[B]? = some (.cells (vc (.mk k m d s ll) ao cap) 26 (0, 0))) ∧
    (∀ m : Int, (w.setCell ⟨B, 2, none⟩ (.int .i64 m)).heap[B]? = some (.cells (vc (.mk k n m s ll) ao cap) 26 (0, 0))) ∧
    (∀ t : List UInt8, (w.setCell ⟨B, 3, none⟩ (.string (bs t))).heap[B]? = some (.cells (vc (.mk k n d t ll) ao cap) 26 (0, 0))) ∧
    (∀ (a2 : Option Addr) (l2 : List Vl) (c2 : Nat), (w.setCell ⟨B, 4, none⟩ (.slice a2 l2.length c2)).heap[B]? = some (.cells (vc (.mk k n d s l2) a2 c2) 26 (0, 0))) := by
  unfold vc at *
  refine ⟨fun m => ?_, fun m => ?_, fun t => ?_, fun a2 l2 c2 => ?_⟩ <;> simp [World.setCell, Array.getElem?_modify, h, Vl.kd, Vl.nn, Vl.dd, Vl.ss, Vl.ll]
theorem int_ok {l : List UInt8} {a n E c : Int} (hv : intV l a = (n, E, c)) : -9223372036854775808 ≤ n ∧ n ≤ 9223372036854775807 ∧ (c = 0 → 0 ≤ a ∧ a < E ∧ E ≤ l.length) ∧ (c ≠ 0 → n = 0 ∧ E = 0) := by
  unfold intV at hv
  split at hv
  · obtain ⟨rfl, rfl, rfl⟩ : 0 = n ∧ 0 = E ∧ 1 = c := by simpa using hv
    exact ⟨by decide, by decide, fun h => absurd h (by decide), fun _ => ⟨rfl, rfl⟩⟩
  · rename_i hb
    have hr := rdv_lt 18446744073709551615 (l.drop a.toNat)
    have ho := rdv_only (most := 18446744073709551615) (l := l.drop a.toNat)
    have hz : (rdv 18446744073709551615 (l.drop a.toNat)).2.2 ≠ 0 → (rdv 18446744073709551615 (l.drop a.toNat)).1 = 0 := by
      unfold rdv
      repeat' split
      all_goals first
        | exact fun _ => rfl
        | exact fun t => absurd rfl t
    generalize rdv 18446744073709551615 (l.drop a.toNat) = r at *
    obtain ⟨u, k, e⟩ := r
    simp only at hr ho hz hv
    obtain ⟨rfl, rfl, rfl⟩ : unzz u = n ∧ (if e = 0 then a + (k : Int) else 0) = E ∧ (e : Int) = c := by simpa using hv
    rw [List.length_drop] at hr ho
    have hi := unzz_in hr.2.1
    refine ⟨hi.1, hi.2, fun hc => ?_, fun hc => ?_⟩
    · have hc' : e = 0 := by omega
      rw [if_pos hc']
      have := ho hc'
      omega
    · rw [if_neg (by omega), hz (by omega)]
      exact ⟨rfl, rfl⟩
theorem yb_bs (l : List UInt8) : yb l = bs l := rfl
set_option maxHeartbeats 8000000 in
set_option maxRecDepth 100000 in
theorem rg_flat (ao : Option Addr) (l : List UInt8) (cap : Nat) (k : Nat) (hk : k < 7) (a nest : Int) (ha0 : -9223372036854775808 ≤ a) (ha1 : a ≤ 9223372036854775807) (B : Nat) (U w0 : World) (h0 : IsB w0 ao l cap) (hf0 : Fuw w0 U) (hB0 : w0.heap.size ≤ B) (hq : U.heap[B]? = some (.cells (vc (vk k) none 0) 26 (0, 0))) : RGat ao l cap a nest (flatV k l a) B U := by
  have h := h0.on hf0
  obtain ⟨c0, c1, c2, c3, c4, cf, -⟩ := vc_cells hq
  have cf1 := cf 1; have cf2 := cf 2; have cf3 := cf 3
  obtain ⟨n, E, c, hv⟩ : ∃ n E c, intV l a = (n, E, c) := ⟨_, _, _, rfl⟩
  have hio := int_ok hv
  have HI := Lib.hid (int_is ao l cap a ha0 ha1 U h n E c hv)
  unfold RGat flatV vk at *
  have hk7 : k = 0 ∨ k = 1 ∨ k = 2 ∨ k = 3 ∨ k = 4 ∨ k = 5 ∨ k = 6 := by omega
  have hset := vc_set hq
  rcases hk7 with rfl | rfl | rfl | rfl | rfl | rfl | rfl
  · rw [if_pos rfl]
    have HQ := Lib.hid hq
    clear hq hset HI cf c1 c2 c3 c4 h hv hio
    go_enter Tryd.func29, Tryd.ntmps29
    go_wp2
    go_ret2
    exact ⟨fun X hX _ => hX, none, 0, rfl, HQ.out, kp_none _ _⟩
  · rw [if_neg (by decide), if_neg (by decide), if_neg (by decide), hv]
    simp only
    have HS := Lib.hid (hset.1 n)
    clear hset hv cf c2 c3 c4 h hq
    by_cases hc : c = 0
    · subst hc
      rw [if_neg (fun t => t rfl)]
      go_enter Tryd.func29, Tryd.ntmps29
      go_wp2_with fail
      go_at_call 41; refine HI.out.mono ?_; rintro e1 w1 ⟨rfl, rfl⟩
      clear HI
      go_wp2
      go_ret2
      exact ⟨fun X hX hXB => fuw_set hX hXB, none, 0, rfl, HS.out, kp_none _ _⟩
    · rw [if_pos hc]
      have HC := Lib.hid hc
      clear hc hio
      go_enter Tryd.func29, Tryd.ntmps29
      go_wp2_with fail
      go_at_call 41; refine HI.out.mono ?_; rintro e1 w1 ⟨rfl, rfl⟩
      clear HI
      go_wp2
      go_ret2
      exact ⟨fun X hX hXB => fuw_set hX hXB, E, rfl, HC.out⟩
  · rw [if_neg (by decide), if_neg (by decide), if_neg (by decide), hv]
    simp only
    have HS := Lib.hid (hset.1 n)
    clear hset hv cf c2 c3 c4 h hq
    by_cases hc : c = 0
    · subst hc
      rw [if_neg (fun t => t rfl)]
      go_enter Tryd.func29, Tryd.ntmps29
      go_wp2_with fail
      go_at_call 41; refine HI.out.mono ?_; rintro e1 w1 ⟨rfl, rfl⟩
      clear HI
      go_wp2
      go_ret2
      exact ⟨fun X hX hXB => fuw_set hX hXB, none, 0, rfl, HS.out, kp_none _ _⟩
    · rw [if_pos hc]
      have HC := Lib.hid hc
      clear hc hio
      go_enter Tryd.func29, Tryd.ntmps29
      go_wp2_with fail
      go_at_call 41; refine HI.out.mono ?_; rintro e1 w1 ⟨rfl, rfl⟩
      clear HI
      go_wp2
      go_ret2
      exact ⟨fun X hX hXB => fuw_set hX hXB, E, rfl, HC.out⟩
  · rw [if_neg (by decide), if_pos rfl, hv]
    simp only
    by_cases hc : c = 0
    · subst hc
      rw [if_neg (fun t => t rfl)]
      obtain ⟨n2, E2, d2, hv2⟩ : ∃ n2 E2 d2, intV l E = (n2, E2, d2) := ⟨_, _, _, rfl⟩
      have hl := h.len.1
      have hb := hio.2.2.1 rfl
      have H1 := hset.1 n
      have h1 : IsB (U.setCell ⟨B, 1, none⟩ (.int .i64 n)) ao l cap := h0.on (fuw_set hf0 hB0)
      have HI2 := Lib.hid (int_is ao l cap E (by omega) (by omega) _ h1 n2 E2 d2 hv2)
      have HS := Lib.hid ((vc_set H1).2.1 n2)
      obtain ⟨x0, x1, x2, x3, x4, xf, xl⟩ := vc_cells H1
      have xf2 := xf 2
      rw [hv2]
      simp only
      clear hset hv hv2 cf h hq hb hl h1 h0 hf0 hB0 H1 xf hio
      by_cases hd : d2 = 0
      · subst hd
        rw [if_neg (fun t => t rfl)]
        go_enter Tryd.func29, Tryd.ntmps29
        go_wp2_with fail
        go_at_call 41; refine HI.out.mono ?_; rintro e1 w1 ⟨rfl, rfl⟩
        clear HI
        go_upto_region 11 with fail
        clear c0 c1 c2 c3 c4 cf1 cf2 cf3
        obtain ⟨W1, hW1⟩ : ∃ W1, U.setCell ⟨B, 1, none⟩ (.int .i64 n) = W1 := ⟨_, rfl⟩
        have HW : Hid (∀ X, Fuw X U → X.heap.size ≤ B → Fuw X W1) := Lib.hid (fun X hX hXB => hW1 ▸ fuw_set hX hXB)
        rw [hW1] at HI2 HS x0 x1 x2 x3 x4 xf2 ⊢
        clear hW1
        go_wp2_with fail
        go_at_call 41; refine HI2.out.mono ?_; rintro e1 w1 ⟨rfl, rfl⟩
        clear HI2
        go_wp2
        go_ret2
        exact ⟨fun X hX hXB => fuw_set (HW.out X hX hXB) hXB, none, 0, rfl, HS.out, kp_none _ _⟩
      · rw [if_pos hd]
        have HD := Lib.hid hd
        clear hd
        go_enter Tryd.func29, Tryd.ntmps29
        go_wp2_with fail
        go_at_call 41; refine HI.out.mono ?_; rintro e1 w1 ⟨rfl, rfl⟩
        clear HI
        go_upto_region 11 with fail
        clear c0 c1 c2 c3 c4 cf1 cf2 cf3
        obtain ⟨W1, hW1⟩ : ∃ W1, U.setCell ⟨B, 1, none⟩ (.int .i64 n) = W1 := ⟨_, rfl⟩
        have HW : Hid (∀ X, Fuw X U → X.heap.size ≤ B → Fuw X W1) := Lib.hid (fun X hX hXB => hW1 ▸ fuw_set hX hXB)
        rw [hW1] at HI2 HS x0 x1 x2 x3 x4 xf2 ⊢
        clear hW1
        go_wp2_with fail
        go_at_call 41; refine HI2.out.mono ?_; rintro e1 w1 ⟨rfl, rfl⟩
        clear HI2
        go_wp2
        go_ret2
        exact ⟨fun X hX hXB => fuw_set (HW.out X hX hXB) hXB, E2, rfl, HD.out⟩
    · rw [if_pos hc]
      have HC := Lib.hid hc
      have hcb : (c == 0) = false := beq_eq_false_iff_ne.2 hc
      clear hc hio hset hv cf c2 c3 c4 h hq
      go_enter Tryd.func29, Tryd.ntmps29
      go_wp2_with fail
      go_at_call 41; refine HI.out.mono ?_; rintro e1 w1 ⟨rfl, rfl⟩
      clear HI
      go_wp2
      go_ret2
      exact ⟨fun X hX hXB => fuw_set hX hXB, E, rfl, HC.out⟩
  · rw [if_neg (by decide), if_neg (by decide), if_pos rfl]
    obtain ⟨S, E2, d2, hv2⟩ : ∃ S E2 d2, strV l a 100 = (S, E2, d2) := ⟨_, _, _, rfl⟩
    have HT := Lib.hid (str_is ao l cap a 100 ha0 ha1 U h S E2 d2 hv2)
    rw [hv2]
    simp only
    have HS := Lib.hid (hset.2.2.1 S)
    have HYB := Lib.hid (yb_bs S)
    clear hset hv hv2 cf c1 c2 c4 h hq HI hio
    by_cases hc : d2 = 0
    · subst hc
      rw [if_neg (fun t => t rfl)]
      rw [HYB.out] at HT
      go_enter Tryd.func29, Tryd.ntmps29
      go_wp2_with fail
      go_at_call 42; refine HT.out.mono ?_; rintro e1 w1 ⟨rfl, rfl⟩
      clear HT
      go_wp2
      go_ret2
      exact ⟨fun X hX hXB => fuw_set hX hXB, none, 0, rfl, HS.out, kp_none _ _⟩
    · rw [if_pos hc]
      have HC := Lib.hid hc
      clear hc
      go_enter Tryd.func29, Tryd.ntmps29
      go_wp2_with fail
      go_at_call 42; refine HT.out.mono ?_; rintro e1 w1 ⟨rfl, rfl⟩
      clear HT
      go_wp2
      go_ret2
      exact ⟨fun X hX hXB => fuw_set hX hXB, E2, rfl, HC.out⟩
  · rw [if_neg (by decide), if_neg (by decide), if_neg (by decide), hv]
    simp only
    have HS := Lib.hid (hset.1 n)
    clear hset hv cf c2 c3 c4 h hq
    by_cases hc : c = 0
    · subst hc
      rw [if_neg (fun t => t rfl)]
      go_enter Tryd.func29, Tryd.ntmps29
      go_wp2_with fail
      go_at_call 41; refine HI.out.mono ?_; rintro e1 w1 ⟨rfl, rfl⟩
      clear HI
      go_wp2
      go_ret2
      exact ⟨fun X hX hXB => fuw_set hX hXB, none, 0, rfl, HS.out, kp_none _ _⟩
    · rw [if_pos hc]
      have HC := Lib.hid hc
      clear hc hio
      go_enter Tryd.func29, Tryd.ntmps29
      go_wp2_with fail
      go_at_call 41; refine HI.out.mono ?_; rintro e1 w1 ⟨rfl, rfl⟩
      clear HI
      go_wp2
      go_ret2
      exact ⟨fun X hX hXB => fuw_set hX hXB, E, rfl, HC.out⟩
  · rw [if_neg (by decide), if_neg (by decide), if_neg (by decide), hv]
    simp only
    have HS := Lib.hid (hset.1 n)
    clear hset hv cf c2 c3 c4 h hq
    by_cases hc : c = 0
    · subst hc
      rw [if_neg (fun t => t rfl)]
      go_enter Tryd.func29, Tryd.ntmps29
      go_wp2_with fail
      go_at_call 41; refine HI.out.mono ?_; rintro e1 w1 ⟨rfl, rfl⟩
      clear HI
      go_wp2
      go_ret2
      exact ⟨fun X hX hXB => fuw_set hX hXB, none, 0, rfl, HS.out, kp_none _ _⟩
    · rw [if_pos hc]
      have HC := Lib.hid hc
      clear hc hio
      go_enter Tryd.func29, Tryd.ntmps29
      go_wp2_with fail
      go_at_call 41; refine HI.out.mono ?_; rintro e1 w1 ⟨rfl, rfl⟩
      clear HI
      go_wp2
      go_ret2
      exact ⟨fun X hX hXB => fuw_set hX hXB, E, rfl, HC.out⟩
end Go.Proofs.YtehmdeponbhhjaaDoor
