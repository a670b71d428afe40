/-
  GrF; GrI; GrJ: texts of one kind in one file; each part says what it holds.
-/
import Derived.Test.YtkcmakfmeioakaaGreatM09

/-! Package graph: whether a node stands in a list whose ids increase (binary search). Nothing that was there turns. -/
namespace Go.Proofs.YtkcmakfmeioakaaGreat
open Go.RowKit

theorem cmpi_any (a b : Int) (w : World) : Calls Tryz.prog 41 #[.int .i64 a, .int .i64 b] w (PureI w (intc a b)) := by
  by_cases h1 : a < b
  · rw [show intc a b = -1 by unfold intc; rw [if_pos h1]]
    go_enter Tryz.func41, Tryz.ntmps41
    go_wp2
    go_ret
    exact ⟨rfl, rfl⟩
  · by_cases h2 : b < a
    · rw [show intc a b = 1 by unfold intc; rw [if_neg h1, if_pos h2]]
      go_enter Tryz.func41, Tryz.ntmps41
      go_wp2
      go_ret
      exact ⟨rfl, rfl⟩
    · rw [show intc a b = 0 by unfold intc; rw [if_neg h1, if_neg h2]]
      go_enter Tryz.func41, Tryz.ntmps41
      go_wp2
      go_ret
      exact ⟨rfl, rfl⟩
theorem hn1_any (n : Nd) (al ap : Option Addr) (cl cp : Nat) (x : Int) (w : World) : Calls Tryz.prog 65 #[ndv n al ap cl cp, .int .i64 x] w (FwI w (intc n.id x)) := by
  unfold ndv
  generalize n.id = k
  go_enter Tryz.func65, Tryz.ntmps65
  go_wp2_with (go_at_call 41; refine (cmpi_any _ _ _).mono ?_; rintro e1 w1 ⟨rfl, rfl⟩)
  go_ret
  exact ⟨rfl, fuwA _ _⟩

/-- Where the search stands. -/
def BsI (ns : List Nd) (x : Int) (i j : Nat) : Prop := i ≤ j ∧ j ≤ ns.length ∧ (∀ k (h : k < ns.length), k < i → ns[k].id < x) ∧ ∀ k (h : k < ns.length), j ≤ k → x ≤ ns[k].id
theorem bsI_mid {ns : List Nd} {x : Int} {i j : Nat} (hp : ns.Pairwise (fun a b => a.id < b.id)) (h : BsI ns x i j) (hij : i < j) (hm : (i + j) / 2 < ns.length) :
    (ns[(i + j) / 2].id < x → BsI ns x ((i + j) / 2 + 1) j) ∧ (x ≤ ns[(i + j) / 2].id → BsI ns x i ((i + j) / 2)) := by
  obtain ⟨h1, h2, h3, h4⟩ := h
  refine ⟨fun hx => ⟨by omega, h2, fun k hk hk' => ?_, h4⟩, fun hx => ⟨by omega, by omega, h3, fun k hk hk' => ?_⟩⟩
  · rcases Nat.lt_or_eq_of_le (show k ≤ (i + j) / 2 by omega) with g | g
    · have := List.pairwise_iff_getElem.1 hp k _ hk hm g; omega
    · subst g; exact hx
  · rcases Nat.lt_or_eq_of_le hk' with g | g
    · have := List.pairwise_iff_getElem.1 hp _ k hm hk g; omega
    · subst g; exact hx
theorem bsI_end {ns : List Nd} {x : Int} {i : Nat} (hp : ns.Pairwise (fun a b => a.id < b.id)) (h : BsI ns x i i) : hasN ns x = if g : i < ns.length then decide (ns[i].id = x) else false := by
  obtain ⟨-, h2, h3, h4⟩ := h
  unfold hasN
  rw [Bool.eq_iff_iff, List.any_eq_true]
  constructor
  · rintro ⟨n, hn, he⟩
    obtain ⟨k, hk, rfl⟩ := List.getElem_of_mem hn
    have he' : ns[k].id = x := by simpa using he
    have hik : ¬ k < i := fun g => by have := h3 k hk g; omega
    have hi : i < ns.length := by omega
    rw [dif_pos hi, decide_eq_true_eq]
    rcases Nat.lt_or_eq_of_le (show i ≤ k by omega) with g | g
    · have := List.pairwise_iff_getElem.1 hp _ _ hi hk g
      have := h4 i hi (Nat.le_refl _)
      omega
    · subst g; exact he'
  · intro h
    by_cases hi : i < ns.length
    · rw [dif_pos hi, decide_eq_true_eq] at h
      exact ⟨_, List.getElem_mem hi, by simpa using h⟩
    · rw [dif_neg hi] at h; cases h

set_option maxHeartbeats 3200000 in
set_option maxRecDepth 100000 in
theorem bsf_any (ns : List Nd) (ao : Option Addr) (cap : Nat) (x : Int) (w : World) (hs : SlN w ao ns cap) (hp : ns.Pairwise (fun a b => a.id < b.id)) (hn : ns.length ≤ 2000) :
    Calls Tryz.prog 64 #[.slice ao ns.length cap, .int .i64 x, .func (.func 65) #[] #[]] w (fun e w' => ∃ k : Int, e = .returned (.tuple #[.int .i64 k, .bool (hasN ns x)]) ∧ Fuw w w') := by
  have HS := Lib.hid hs
  have HP := Lib.hid hp
  have HB := Lib.hid (show BsI ns x 0 ns.length from ⟨Nat.zero_le _, Nat.le_refl _, fun k _ h => absurd h (by omega), fun k h h' => absurd h (by omega)⟩)
  clear hs hp
  obtain ⟨R, hR⟩ : ∃ R, R = hasN ns x := ⟨_, rfl⟩
  rw [← hR]
  have HR := Lib.hid hR
  clear hR
  go_enter Tryz.func64, Tryz.ntmps64
  go_wp2
  go_loopw [9, 10] (fun iv jv wr => ∃ i j : Nat, iv = .int .i64 i ∧ jv = .int .i64 j ∧ i ≤ j ∧ j ≤ ns.length ∧ Hid (BsI ns x i j) ∧ Hid (Fuw w wr)) (fun iv jv _ => (RowKit.intOf jv).toNat - (RowKit.intOf iv).toNat)
  case atStart => exact ⟨0, ns.length, rfl, rfl, Nat.zero_le _, Nat.le_refl _, HB, Fuw.refl _⟩
  case round =>
    obtain ⟨i, j, rfl, rfl, hij, hj, HI, hf⟩ := hrel
    by_cases hlt : i < j
    · have hm : (i + j) / 2 < ns.length := by omega
      obtain ⟨b, o, rfl, hi, c0, ⟨a1, k1, c1, -⟩, a2, k2, c2, -⟩ := (slN_on hf.out HS.out).get hm
      have HM := Lib.hid (bsI_mid HP.out HI.out hlt hm)
      have hh : ((i : Int) + (j : Int)) / 2 = ((i + j) / 2 : Nat) := by omega
      have HC := Lib.hid (fun w' => hn1_any ns[(i + j) / 2] a1 a2 k1 k2 x w')
      unfold ndv at HC
      have h1 : i ≤ (i + j) / 2 := by omega
      have h2 : (i + j) / 2 < j := by omega
      generalize ns[(i + j) / 2] = n at *
      generalize (i + j) / 2 = m at *
      go_wp2_with fail
      go_at_call 65; refine (HC.out _).mono ?_; rintro e1 w1 ⟨rfl, f1⟩
      clear hh
      have HF := Lib.hid (hf.out.trans f1)
      by_cases hx : n.id < x
      · have hq : intc n.id x = -1 := by unfold intc; rw [if_pos hx]
        have HZ := Lib.hid (HM.out.1 hx)
        rw [hq]
        clear hq hx
        go_wp2
        go_roundw
        case rel => exact ⟨m + 1, j, by go_num, rfl, by omega, hj, HZ, HF⟩
        case measure => simp [RowKit.intOf]; omega
      · have hq : 0 ≤ intc n.id x := by unfold intc; rw [if_neg hx]; split <;> omega
        have HZ := Lib.hid (HM.out.2 (by omega))
        generalize intc n.id x = q at *
        have hq' : ¬ q < 0 := by omega
        clear hq hx
        go_wp2
        go_roundw
        case rel => exact ⟨i, m, rfl, rfl, h1, by omega, HZ, HF⟩
        case measure => simp [RowKit.intOf]; omega
    · obtain rfl : i = j := by omega
      have HE := Lib.hid (HR.out.trans (bsI_end HP.out HI.out))
      by_cases hi : i < ns.length
      · have HE2 := Lib.hid (show R = decide (ns[i].id = x) by rw [HE.out, dif_pos hi])
        obtain ⟨b, o, rfl, -, c0, ⟨a1, k1, c1, -⟩, a2, k2, c2, -⟩ := (slN_on hf.out HS.out).get hi
        have HC := Lib.hid (fun w' => hn1_any ns[i] a1 a2 k1 k2 x w')
        unfold ndv at HC
        clear HE
        generalize ns[i] = n at *
        go_wp2_with fail
        go_at_call 65; refine (HC.out _).mono ?_; rintro e1 w1 ⟨rfl, f1⟩
        have HF := Lib.hid (hf.out.trans f1)
        by_cases hx : n.id = x
        · have hq : intc n.id x = 0 := by rw [hx]; exact intc_self _
          have HT := Lib.hid (show R = true by rw [HE2.out, decide_eq_true hx])
          rw [hq]
          clear hq hx
          go_wp2
          go_ret2
          exact ⟨_, (by rw [HT.out]; rfl), HF.out⟩
        · have hq : (intc n.id x == 0) = false := by
            rw [beq_eq_false_iff_ne]; unfold intc; split
            · decide
            · split
              · decide
              · omega
          have HT := Lib.hid (show R = false by rw [HE2.out, decide_eq_false hx])
          generalize intc n.id x = q at *
          clear hx
          go_wp2
          go_ret2
          exact ⟨_, (by rw [HT.out]; rfl), HF.out⟩
      · have HT := Lib.hid (show R = false by rw [HE.out, dif_neg hi])
        clear HE
        go_wp2
        go_ret2
        exact ⟨_, (by rw [HT.out]; rfl), hf.out⟩
/-- hasNode, where the ids increase. -/
theorem hasn_any (ns : List Nd) (ao : Option Addr) (cap : Nat) (x : Int) (w : World) (hs : SlN w ao ns cap) (hp : ns.Pairwise (fun a b => a.id < b.id)) (hn : ns.length ≤ 2000) :
    Calls Tryz.prog 43 #[.slice ao ns.length cap, .int .i64 x] w (FwB w (hasN ns x)) := by
  have HC := Lib.hid (bsf_any ns ao cap x w hs hp hn)
  clear hs hp
  generalize hasN ns x = R at *
  go_enter Tryz.func43, Tryz.ntmps43
  go_wp2_with fail
  go_at_call 64
  refine HC.out.mono ?_
  rintro e1 w1 ⟨k, rfl, f1⟩
  go_wp2
  go_ret
  exact ⟨rfl, f1⟩
end Go.Proofs.YtkcmakfmeioakaaGreat

/-! Package graph and its reference: where an edge leads; which strings stand in a list; types. What was there does not turn. -/
namespace Go.Proofs.YtkcmakfmeioakaaGreat
open Go.RowKit

theorem hasS_drop (l : List (List UInt8)) (s : List UInt8) (i : Nat) (h : i < l.length) : hasS (l.drop i) s = ((l[i] == s) || hasS (l.drop (i + 1)) s) := by
  unfold hasS
  rw [List.drop_eq_getElem_cons h]; rfl
theorem hasS_end (l : List (List UInt8)) (s : List UInt8) (i : Nat) (h : l.length ≤ i) : hasS (l.drop i) s = false := by
  unfold hasS
  rw [List.drop_of_length_le h]; rfl
theorem bs_eq (s t : List UInt8) : ((bs s).toList == (bs t).toList) = (s == t) := by rw [toL, toL, bs_data, bs_data]
set_option maxHeartbeats 1600000 in
set_option maxRecDepth 100000 in
theorem index_any (l : List (List UInt8)) (ao : Option Addr) (cap : Nat) (s : List UInt8) (w : World) (hs : SlS w ao l cap) :
    Calls Tryz.prog 48 #[.slice ao l.length cap, .string (bs s)] w (fun e w' => ∃ k : Int, e = .returned (.int .i64 k) ∧ decide (0 ≤ k) = hasS l s ∧ w = w') := by
  have hl := hs.len
  have HS := Lib.hid hs
  clear hs
  obtain ⟨R, hR⟩ : ∃ R, R = hasS l s := ⟨_, rfl⟩
  rw [← hR]
  have HR := Lib.hid (show R = hasS (l.drop 0) s from hR)
  clear hR
  go_enter Tryz.func48, Tryz.ntmps48
  go_wp2
  go_loop [8] (fun iv => ∃ i : Nat, iv = .int .i64 i ∧ i ≤ l.length ∧ Hid (R = hasS (l.drop i) s)) (fun iv => l.length - (RowKit.intOf iv).toNat)
  case atStart => exact ⟨0, rfl, Nat.zero_le _, HR⟩
  case round =>
    obtain ⟨i, rfl, hi, HN⟩ := hrel
    by_cases hlt : i < l.length
    · obtain ⟨b, o, rfl, -, hc⟩ := HS.out.get hlt
      have HA := Lib.hid (hasS_drop l s i hlt)
      rw [Nat.mul_one] at hc
      generalize l[i] = t at *
      cases hb : ((bs s).toList == (bs t).toList) with
      | true =>
        have HZ := Lib.hid (show R = true by
          rw [bs_eq] at hb
          have e : s = t := by simpa using hb
          rw [HN.out, HA.out, e]; simp)
        go_wp2
        go_ret
        exact ⟨_, rfl, by rw [HZ.out]; exact decide_eq_true (by omega), rfl⟩
      | false =>
        have HZ := Lib.hid (show R = hasS (l.drop (i + 1)) s by
          rw [bs_eq] at hb
          have e : (t == s) = false := by
            have : s ≠ t := by simpa using hb
            exact beq_eq_false_iff_ne.2 (Ne.symm this)
          rw [HN.out, HA.out, e]; rfl)
        go_wp2
        go_round
        case rel => exact ⟨i + 1, by go_num, by omega, HZ⟩
        case measure => simp [RowKit.intOf]; omega
    · have HZ := Lib.hid (show R = false by rw [HN.out, hasS_end _ _ _ (by omega)])
      go_wp2
      go_ret
      exact ⟨-1, rfl, by rw [HZ.out]; rfl, rfl⟩
theorem conts_any (l : List (List UInt8)) (ao : Option Addr) (cap : Nat) (s : List UInt8) (w : World) (hs : SlS w ao l cap) :
    Calls Tryz.prog 37 #[.slice ao l.length cap, .string (bs s)] w (PureB w (hasS l s)) := by
  have HC := Lib.hid (index_any l ao cap s w hs)
  clear hs
  generalize hasS l s = R at *
  go_enter Tryz.func37, Tryz.ntmps37
  go_wp2_with fail
  go_at_call 48; refine HC.out.mono ?_; rintro e1 w1 ⟨k, rfl, hk, rfl⟩
  have HK := Lib.hid hk
  clear hk
  go_wp2
  go_ret
  exact ⟨ret_bool HK.out, rfl⟩
theorem hasT_nil {l : List (List UInt8)} (ty : List UInt8) (h : l.length = 0) : hasT ty l = true := by
  rw [List.eq_nil_of_length_eq_zero h]; rfl
theorem hasT_pos {l : List (List UInt8)} (ty : List UInt8) (h : 0 < l.length) : hasT ty l = hasS l ty := by
  cases l with
  | nil => exact absurd h (by decide)
  | cons a r => rfl
theorem hast_any (e : Ed) (ap : Option Addr) (cp : Nat) (l : List (List UInt8)) (ao : Option Addr) (cap : Nat) (w : World) (hs : SlS w ao l cap) :
    Calls Tryz.prog 24 #[edv e ap cp, .slice ao l.length cap] w (FwB w (hasT e.ty l)) := by
  have hl := hs.len
  have HC := Lib.hid (fun w' (hf : Fuw w w') => conts_any l ao cap e.ty w' (slS_on hf hs))
  clear hs
  unfold edv
  rcases Nat.eq_zero_or_pos l.length with h | h
  · have HZ := Lib.hid (hasT_nil e.ty h)
    have h1 : ((l.length : Int) == 0) = true := by rw [h]; rfl
    clear h
    generalize hasT e.ty l = R at *
    go_enter Tryz.func24, Tryz.ntmps24
    go_wp2
    go_ret
    exact ⟨ret_bool HZ.out.symm, fuwA _ _⟩
  · have HZ := Lib.hid (hasT_pos e.ty h)
    have h1 : ((l.length : Int) == 0) = false := by rw [beq_eq_false_iff_ne]; omega
    clear h
    generalize hasT e.ty l = R at *
    generalize hasS l e.ty = r at *
    go_enter Tryz.func24, Tryz.ntmps24
    go_wp2_with (go_at_call 37; refine (HC.out _ (fuwA _ _)).mono ?_; rintro e1 w1 ⟨rfl, rfl⟩)
    go_ret
    exact ⟨ret_bool HZ.out.symm, fuwA _ _⟩
/-! Where an edge leads. -/
/-- Where it leads, as an int and a bool. -/
def acrN (e : Ed) (id dir : Int) : Int := (acrV e id dir).getD 0
set_option maxHeartbeats 1600000 in
set_option maxRecDepth 100000 in
theorem across_any (e : Ed) (ap : Option Addr) (cp : Nat) (id dir : Int) (w : World) :
    Calls Tryz.prog 23 #[edv e ap cp, .int .i64 id, .int .i64 dir] w (fun x w' => x = .returned (.tuple #[.int .i64 (acrN e id dir), .bool (acrV e id dir).isSome]) ∧ Fuw w w') := by
  have HV := Lib.hid (show acrV e id dir = if (dir = 1 ∨ dir = 3) ∧ e.fr = id then some e.to else if (dir = 2 ∨ dir = 3) ∧ e.to = id then some e.fr else none from rfl)
  unfold acrN edv
  generalize acrV e id dir = V at *
  generalize e.fr = f at *
  generalize e.to = t at *
  have hd : dir = 1 ∨ dir = 2 ∨ dir = 3 ∨ (¬ dir = 1 ∧ ¬ dir = 2 ∧ ¬ dir = 3) := by omega
  rcases hd with rfl | rfl | rfl | ⟨d1, d2, d3⟩
  all_goals
    by_cases hf : f = id
    all_goals
      by_cases ht : t = id
      all_goals
        have HW := HV.out
        simp [*] at HW
        subst HW
        clear HV
        (try have hf' : (f == id) = false := beq_eq_false_iff_ne.2 hf)
        (try have ht' : (t == id) = false := beq_eq_false_iff_ne.2 ht)
        (try have hf'' : (f == id) = true := by rw [hf]; simp)
        (try have ht'' : (t == id) = true := by rw [ht]; simp)
        (try have e1 : (dir == 1) = false := beq_eq_false_iff_ne.2 d1)
        (try have e2 : (dir == 2) = false := beq_eq_false_iff_ne.2 d2)
        (try have e3 : (dir == 3) = false := beq_eq_false_iff_ne.2 d3)
        have HF := Lib.hid hf
        have HT := Lib.hid ht
        clear hf ht
        go_enter Tryz.func23, Tryz.ntmps23
        go_wp2
        go_ret2
        exact ⟨ret_ib (by first | rfl | exact HT.out | exact HF.out) rfl, fuwA _ _⟩
end Go.Proofs.YtkcmakfmeioakaaGreat

/-! Go's cmp.Or of two ints; package graph's order of the entries at a node. Nothing that was there turns. -/
namespace Go.Proofs.YtkcmakfmeioakaaGreat
open Go.RowKit

set_option maxHeartbeats 1600000 in
set_option maxRecDepth 100000 in
theorem or2_any (a b : Int) (B : Nat) (w : World) (h0 : w.cell? ⟨B, 0, none⟩ = some (.int .i64 a)) (h1 : w.cell? ⟨B, 1, none⟩ = some (.int .i64 b)) :
    Calls Tryz.prog 40 #[.slice (some ⟨B, 0, none⟩) 2 2] w (PureI w (thn a b)) := by
  have HC : Hid (∀ i : Nat, i < 2 → w.cell? ⟨B, i, none⟩ = some (.int .i64 (if i = 0 then a else b))) := Lib.hid (fun i hi => by
    rcases (show i = 0 ∨ i = 1 by omega) with rfl | rfl
    · exact h0
    · exact h1)
  obtain ⟨R, hR⟩ : ∃ R, R = thn a b := ⟨_, rfl⟩
  rw [← hR]
  have HR := Lib.hid hR
  clear hR h0 h1
  go_enter Tryz.func40, Tryz.ntmps40
  go_wp2
  go_loop [8] (fun iv => ∃ i : Nat, iv = .int .i64 i ∧ i ≤ 2 ∧ Hid ((0 < i → a = 0) ∧ (1 < i → b = 0))) (fun iv => 2 - (RowKit.intOf iv).toNat)
  case atStart => exact ⟨0, rfl, by omega, ⟨fun h => absurd h (by omega), fun h => absurd h (by omega)⟩⟩
  case round =>
    obtain ⟨i, rfl, hi, HQ⟩ := hrel
    by_cases hlt : i < 2
    · have c0 := HC.out i hlt
      have hlt' : (i : Int) < 2 := by omega
      obtain ⟨v, hv⟩ : ∃ v, v = (if i = 0 then a else b) := ⟨_, rfl⟩
      rw [← hv] at c0
      have HV := Lib.hid hv
      clear hv HC
      by_cases hz : v = 0
      · subst hz
        have HZ := Lib.hid (show (0 < i + 1 → a = 0) ∧ (1 < i + 1 → b = 0) from by
          have h := HV.out
          refine ⟨fun _ => ?_, fun g => ?_⟩
          · rcases (show i = 0 ∨ i = 1 by omega) with e | e
            · rw [if_pos e] at h; exact h.symm
            · exact HQ.out.1 (by omega)
          · rw [if_neg (by omega)] at h; exact h.symm)
        go_wp2
        go_round
        case rel => exact ⟨i + 1, by go_num, by omega, HZ⟩
        case measure => simp [RowKit.intOf]; omega
      · have hz' : (v != 0) = true := by rw [bne_iff_ne]; exact hz
        have HZ := Lib.hid (show R = v by
          rw [HR.out, HV.out]
          rcases (show i = 0 ∨ i = 1 by omega) with e | e
          · have hz2 := hz
            rw [HV.out, if_pos e] at hz2
            rw [if_pos e]; exact thn_n hz2 _
          · rw [if_neg (by omega), HQ.out.1 (by omega)]; rfl)
        clear hz
        go_wp2
        go_ret
        exact ⟨ret_int HZ.out.symm, rfl⟩
    · have HZ := Lib.hid (show R = 0 by rw [HR.out, HQ.out.1 (by omega), HQ.out.2 (by omega)]; rfl)
      have hge : ¬ (i : Int) < 2 := by omega
      clear HQ HC
      go_wp2
      go_ret
      exact ⟨ret_int HZ.out.symm, rfl⟩

/-- An entry as the model has it. -/
def adv (f t e : Int) : Value := .agg #[.int .i64 f, .int .i64 t, .int .i64 e]
set_option maxHeartbeats 3200000 in
set_option maxRecDepth 100000 in
theorem ord_any (f1 t1 e1 f2 t2 e2 : Int) (w : World) : Calls Tryz.prog 26 #[adv f1 t1 e1, adv f2 t2 e2] w (RetI w (adjc (t1, e1) (t2, e2))) := by
  have HJ := Lib.hid (show adjc (t1, e1) (t2, e2) = thn (intc t1 t2) (intc e1 e2) from rfl)
  generalize adjc (t1, e1) (t2, e2) = R at *
  unfold adv
  have p1 := Bk.new w #[.int .i64 f1, .int .i64 t1, .int .i64 e1] 45
  have s1 : (w.alloc (.cells #[.int .i64 f1, .int .i64 t1, .int .i64 e1] 45)).heap.size = w.heap.size + 1 := by simp
  have p2 := Bk.new (w.alloc (.cells #[.int .i64 f1, .int .i64 t1, .int .i64 e1] 45)) #[.int .i64 f2, .int .i64 t2, .int .i64 e2] 45
  rw [s1] at p2
  replace p1 := p1.on (fuwA _ (.cells #[.int .i64 f2, .int .i64 t2, .int .i64 e2] 45))
  have f0 := ((Fur.refl w).alloc (.cells #[.int .i64 f1, .int .i64 t1, .int .i64 e1] 45)).alloc (.cells #[.int .i64 f2, .int .i64 t2, .int .i64 e2] 45)
  clear s1
  go_enter Tryz.func26, Tryz.ntmps26
  go_upto_region 1 with fail
  generalize (w.alloc (.cells #[.int .i64 f1, .int .i64 t1, .int .i64 e1] 45)).alloc (.cells #[.int .i64 f2, .int .i64 t2, .int .i64 e2] 45) = W at *
  have c1 : W.cell? ⟨w.heap.size, 1, none⟩ = some (.int .i64 t1) := p1.c 1
  have c2 : W.cell? ⟨w.heap.size, 2, none⟩ = some (.int .i64 e1) := p1.c 2
  have d1 : W.cell? ⟨w.heap.size + 1, 1, none⟩ = some (.int .i64 t2) := p2.c 1
  have d2 : W.cell? ⟨w.heap.size + 1, 2, none⟩ = some (.int .i64 e2) := p2.c 2
  have hk := f0.size
  have ff : Fur W W.drew := Fur.drew (Fur.refl W)
  have F0 := Lib.hid f0
  clear p1 p2 f0
  go_region_held3 (fun w' => Fur W w' ∧ w'.cell? ⟨w.heap.size, 1, none⟩ = some (.int .i64 t1) ∧ w'.cell? ⟨w.heap.size, 2, none⟩ = some (.int .i64 e1) ∧ w'.cell? ⟨w.heap.size + 1, 1, none⟩ = some (.int .i64 t2) ∧ w'.cell? ⟨w.heap.size + 1, 2, none⟩ = some (.int .i64 e2))
    (first | exact ⟨ff, c1, c2, d1, d2⟩ | exact ⟨ff.alloc _, cellOn (ff.alloc _) c1, cellOn (ff.alloc _) c2, cellOn (ff.alloc _) d1, cellOn (ff.alloc _) d2⟩)
    (first
      | (go_at_call 41; refine (cmpi_any _ _ _).mono ?_; rintro e w4 ⟨rfl, rfl⟩)
      | (go_at_call 40; refine (or2_any (intc t1 t2) (intc e1 e2) _ _ ((Bk.new _ _ _).c 0) ((Bk.new _ _ _).c 1)).mono ?_; rintro e w4 ⟨rfl, rfl⟩))
  all_goals
    go_wp2
    go_ret
    exact ⟨ret_int HJ.out.symm, F0.out.trans (ff.alloc _)⟩
end Go.Proofs.YtkcmakfmeioakaaGreat
