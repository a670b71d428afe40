/-
  RvJ; GrP: texts of one kind in one file; each part says what it holds.
-/
import Derived.Test.YtcadeijloobbmaaGreatNe
import Derived.Test.YtcadeijloobbmaaGreatGrG

/-! The reference of package value: Weigh of every value in memory: what is left of a budget. Nothing that was there turns. -/
namespace Go.Proofs.YtcadeijloobbmaaGreat
open Go.RowKit

/-- What is left of a budget behind a value. -/
def weiV : Nat → Vl → Int → Int
  | 0, _, _ => -1
  | m + 1, x, a => x.ll.foldl (fun a y => if a < 0 then a else weiV m y a) (a - 1 - ((x.ss.length / 50 : Nat) : Int))
/-- .. behind values. -/
def weiL (m : Nat) (l : List Vl) (a : Int) : Int := l.foldl (fun a y => if a < 0 then a else weiV m y a) a
theorem weiV_s (m : Nat) (x : Vl) (a : Int) : weiV (m + 1) x a = weiL m x.ll (a - 1 - ((x.ss.length / 50 : Nat) : Int)) := rfl
theorem weiL_neg (m : Nat) : ∀ (l : List Vl) {a : Int} (_ : a < 0), weiL m l a = a
  | [], _, _ => rfl
  | y :: r, a, h => by
    show weiL m r (if a < 0 then a else weiV m y a) = a
    rw [if_pos h]; exact weiL_neg m r h
theorem weiL_cons (m : Nat) (y : Vl) (r : List Vl) {a : Int} (h : 0 ≤ a) : weiL m (y :: r) a = weiL m r (weiV m y a) := by
  show weiL m r (if a < 0 then a else weiV m y a) = _
  rw [if_neg (by omega)]
mutual
theorem weiV_lt : ∀ (m : Nat) (x : Vl) {a : Int} (_ : 0 ≤ a), weiV m x a < a
  | 0, _, a, h => by show (-1 : Int) < a; omega
  | m + 1, x, a, h => by
    rw [weiV_s]
    have := weiL_le m x.ll (a - 1 - ((x.ss.length / 50 : Nat) : Int))
    omega
theorem weiL_le : ∀ (m : Nat) (l : List Vl) (a : Int), weiL m l a ≤ a
  | m, [], a => Int.le_refl _
  | m, y :: r, a => by
    by_cases h : a < 0
    · rw [weiL_neg m _ h]; exact Int.le_refl _
    · rw [weiL_cons m y r (by omega)]
      have k1 := weiL_le m r (weiV m y a)
      have k2 := weiV_lt m y (a := a) (by omega)
      omega
end
theorem weiL_drop (m : Nat) (l : List Vl) (i : Nat) (h : i < l.length) {a : Int} (ha : 0 ≤ a) : weiL m (l.drop i) a = weiL m (l.drop (i + 1)) (weiV m l[i] a) := by
  rw [List.drop_eq_getElem_cons h, weiL_cons m _ _ ha]
/-! Light. -/
/-- A slice of rows. -/
structure RsV (w : World) (ao : Option Addr) (rows : List (List Vl)) (cap : Nat) : Prop where
  le : rows.length ≤ cap
  max : cap ≤ maxLen
  nil : ao = none → cap = 0
  at_ : 0 < rows.length → ∃ b o, ao = some ⟨b, o, none⟩ ∧ ∀ (j : Nat) (h : j < rows.length), ∃ a c, w.cell? ⟨b, o + j, none⟩ = some (.slice a rows[j].length c) ∧ SlV w a rows[j] c
theorem RsV.on {w w' : World} {ao : Option Addr} {rows : List (List Vl)} {cap : Nat} (h : RsV w ao rows cap) (hf : Fur w w') : RsV w' ao rows cap :=
  ⟨h.le, h.max, h.nil, fun hp => by
    obtain ⟨b, o, e, hc⟩ := h.at_ hp
    refine ⟨b, o, e, fun j hj => ?_⟩
    obtain ⟨a, c, h1, h2⟩ := hc j hj
    exact ⟨a, c, cellOn hf h1, h2.on hf⟩⟩
theorem RsV.onw {w w' : World} {ao : Option Addr} {rows : List (List Vl)} {cap : Nat} (h : RsV w ao rows cap) (hf : Fuw w w') : RsV w' ao rows cap :=
  ⟨h.le, h.max, h.nil, fun hp => by
    obtain ⟨b, o, e, hc⟩ := h.at_ hp
    refine ⟨b, o, e, fun j hj => ?_⟩
    obtain ⟨a, c, h1, h2⟩ := hc j hj
    exact ⟨a, c, cellOnw hf h1, h2.onw hf⟩⟩
/-- What is left of a budget behind rows. -/
def ligV (rows : List (List Vl)) (a : Int) : Int := rows.foldl (fun a r => if a < 0 then a else weiL 12 r (a - 1)) a
theorem ligV_neg : ∀ (rows : List (List Vl)) {a : Int} (_ : a < 0), ligV rows a = a
  | [], _, _ => rfl
  | y :: r, a, h => by
    show ligV r (if a < 0 then a else weiL 12 y (a - 1)) = a
    rw [if_pos h]; exact ligV_neg r h
theorem ligV_drop (rows : List (List Vl)) (i : Nat) (h : i < rows.length) {a : Int} (ha : 0 ≤ a) : ligV (rows.drop i) a = ligV (rows.drop (i + 1)) (weiL 12 rows[i] (a - 1)) := by
  rw [List.drop_eq_getElem_cons h]
  show ligV _ (if a < 0 then a else weiL 12 _ (a - 1)) = _
  rw [if_neg (by omega)]
theorem ligV_le : ∀ (rows : List (List Vl)) (a : Int), ligV rows a ≤ a
  | [], a => Int.le_refl _
  | y :: r, a => by
    by_cases h : a < 0
    · rw [ligV_neg _ h]; exact Int.le_refl _
    · show ligV r (if a < 0 then a else weiL 12 y (a - 1)) ≤ a
      rw [if_neg h]
      have k1 := ligV_le r (weiL 12 y (a - 1))
      have k2 := weiL_le 12 y (a - 1)
      omega
end Go.Proofs.YtcadeijloobbmaaGreat

/-! The reference of package value: Weigh, whatever the budget; the reference of package graph: weigh. Nothing that was there turns. -/
namespace Go.Proofs.YtcadeijloobbmaaGreat
open Go.RowKit

def WQ (m : Nat) : Prop := ∀ (x : Vl) (ao : Option Addr) (cap : Nat) (a : Int) (w : World), -1000000000000000000 ≤ a → a ≤ 1000000 → Vin x → SlV w ao x.ll cap → Calls Tryz.prog 36 #[vlv x ao cap, .int .i64 a, .int .i64 (m : Int)] w (FwI w (weiV m x a))
theorem wq_0 : WQ 0 := fun x ao cap a w h0 h1 hi hs => by
  have f0 := fuwA w (.cells #[.int .i64 x.kd, .int .i64 x.nn, .int .i64 x.dd, .string (bs x.ss), .slice ao x.ll.length cap] 62)
  have hl := hi.s
  unfold maxLen at hl
  have hz : (bs x.ss).size = x.ss.length := by simp [bs, ByteArray.size]
  show Calls _ _ _ _ (FwI w (-1))
  clear hs hi
  unfold vlv at *
  go_enter Tryz.func36, Tryz.ntmps36
  go_wp2
  go_ret
  exact ⟨rfl, f0⟩
set_option maxHeartbeats 3200000 in
set_option maxRecDepth 100000 in
theorem wq_s (m : Nat) (hm : m < 1000) (hw : WQ m) : WQ (m + 1) := fun x ao cap a w h0 h1 hi hs => by
  have p0 := Bk.new w #[.int .i64 x.kd, .int .i64 x.nn, .int .i64 x.dd, .string (bs x.ss), .slice ao x.ll.length cap] 62
  have f0 := fuwA w (.cells #[.int .i64 x.kd, .int .i64 x.nn, .int .i64 x.dd, .string (bs x.ss), .slice ao x.ll.length cap] 62)
  have hl := hi.s
  unfold maxLen at hl
  have hz : (bs x.ss).size = x.ss.length := by simp [bs, ByteArray.size]
  have hll := hs.le
  have hlm := hs.max
  unfold maxLen at hlm
  have HS := Lib.hid (hs.onw f0)
  have HW := Lib.hid hw
  have e := Lib.hid (weiV_s m x a)
  have HP := Lib.hid p0
  clear hs hi hw p0
  generalize weiV (m + 1) x a = W at *
  rw [show ((m + 1 : Nat) : Int) = (m : Int) + 1 by omega]
  unfold vlv
  obtain ⟨w0, hw0⟩ : ∃ w0, w0 = w.alloc (.cells #[.int .i64 x.kd, .int .i64 x.nn, .int .i64 x.dd, .string (bs x.ss), .slice ao x.ll.length cap] 62) := ⟨_, rfl⟩
  rw [← hw0] at HP f0 HS
  have HW0 := Lib.hid hw0
  have F0 := Lib.hid f0
  clear hw0 f0
  go_enter Tryz.func36, Tryz.ntmps36
  go_wp2
  go_loopw [1, 7] (fun lv iv wr => ∃ (c : Int) (i : Nat), lv = .int .i64 c ∧ iv = .int .i64 i ∧ i ≤ x.ll.length ∧ c ≤ a ∧ Hid (W = weiL m (x.ll.drop i) c) ∧ Hid (Fuw w0 wr)) (fun _ iv _ => x.ll.length - (RowKit.intOf iv).toNat)
  case atStart =>
    refine ⟨a - 1 - ((x.ss.length / 50 : Nat) : Int), 0, congrArg (Value.int .i64) ?_, rfl, Nat.zero_le _, by omega, e.out, ?_⟩
    · omega
    · rw [HW0.out]; exact Fuw.refl _
  case round =>
    obtain ⟨c, i, rfl, rfl, hi, hc, HN, hf⟩ := hrel
    have c4 : wr.cell? ⟨w.heap.size, 4, none⟩ = some (.slice ao x.ll.length cap) := (HP.out.on hf.out).c 4
    by_cases hc0 : 0 ≤ c
    · by_cases hlt : i < x.ll.length
      · obtain ⟨b, o, rfl, hv⟩ := (HS.out.onw hf.out).get hlt
        have hA := weiL_drop m x.ll i hlt hc0
        obtain ⟨hy, d0, d1, d2, d3, ao', cap', d4, hs2⟩ := VC_of hv
        have HC := Lib.hid (HW.out x.ll[i] ao' cap' c wr (by omega) (by omega) hy hs2)
        have hlw := weiV_lt m x.ll[i] hc0
        have HE := Lib.hid (HN.out.trans hA)
        unfold vlv at HC
        clear hv hs2 hy hA
        generalize x.ll[i] = y at *
        generalize weiV m y c = r at *
        go_wp2_with fail
        go_at_call 36
        refine (HC.out).mono ?_; rintro e1 w1 ⟨rfl, f1⟩
        have HF := Lib.hid (hf.out.trans f1)
        go_wp2
        go_roundw
        case rel => exact ⟨r, i + 1, rfl, by go_num, by omega, by omega, HE, HF⟩
        case measure => simp [RowKit.intOf]; omega
      · have HE := Lib.hid (show W = c by rw [HN.out, List.drop_of_length_le (by omega)]; rfl)
        go_wp2
        go_ret
        exact ⟨ret_int HE.out.symm, F0.out.trans hf.out⟩
    · have HE := Lib.hid (show W = c by rw [HN.out, weiL_neg _ _ (by omega)])
      by_cases hlt : i < x.ll.length
      · go_wp2
        go_ret
        exact ⟨ret_int HE.out.symm, F0.out.trans hf.out⟩
      · go_wp2
        go_ret
        exact ⟨ret_int HE.out.symm, F0.out.trans hf.out⟩
theorem wq_any : ∀ m, m < 1000 → WQ m
  | 0, _ => wq_0
  | m + 1, h => wq_s m (by omega) (wq_any m (by omega))

/-! Budgets. -/
/-- What is left of a budget behind properties. -/
def wgpV : List Pp → Int → Int
  | [], a => a
  | p :: r, a => if a < 0 then a else wgpV r (weiV 12 p.v (a - ((p.k.length / 50 : Nat) : Int)))
theorem wgp_neg {a : Int} (h : a < 0) : ∀ l : List Pp, wgpV l a = a
  | [] => rfl
  | p :: r => by unfold wgpV; rw [if_pos h]
theorem wgp_drop (l : List Pp) (i : Nat) (h : i < l.length) {a : Int} (ha : 0 ≤ a) : wgpV (l.drop i) a = wgpV (l.drop (i + 1)) (weiV 12 l[i].v (a - ((l[i].k.length / 50 : Nat) : Int))) := by
  rw [List.drop_eq_getElem_cons h]
  show (if a < 0 then a else _) = _
  rw [if_neg (by omega)]
theorem wei_lt' (m : Nat) (x : Vl) (a : Int) (h : 0 ≤ a) (b : Int) (hb : 0 ≤ b) : weiV m x (a - b) < a := by
  by_cases g : 0 ≤ a - b
  · have := weiV_lt m x g; omega
  · cases m with
    | zero => show (-1 : Int) < a; omega
    | succ m =>
      rw [weiV_s, weiL_neg _ _ (by omega)]
      omega
theorem wgp_le : ∀ (l : List Pp) (a : Int), wgpV l a ≤ a
  | [], a => Int.le_refl _
  | p :: r, a => by
    by_cases h : a < 0
    · rw [wgp_neg h]; exact Int.le_refl _
    · show (if a < 0 then a else _) ≤ a
      rw [if_neg h]
      have k1 := wgp_le r (weiV 12 p.v (a - ((p.k.length / 50 : Nat) : Int)))
      have k2 := wei_lt' 12 p.v a (by omega) ((p.k.length / 50 : Nat) : Int) (by omega)
      omega
set_option maxHeartbeats 6400000 in
set_option maxRecDepth 100000 in
theorem weigh_any (l : List Pp) (ao : Option Addr) (cap : Nat) (a : Int) (w : World) (hs : SlP w ao l cap) (ha : a ≤ 2000) :
    Calls Tryz.prog 17 #[.slice ao l.length cap, .int .i64 a] w (FwI w (wgpV l a)) := by
  have hl := hs.len
  have HS := Lib.hid hs
  have HW := Lib.hid (wq_any 12 (by decide))
  clear hs
  obtain ⟨R, hR⟩ : ∃ R, R = wgpV l a := ⟨_, rfl⟩
  rw [← hR]
  have HR := Lib.hid (show R = wgpV (l.drop 0) a from hR)
  clear hR
  go_enter Tryz.func17, Tryz.ntmps17
  go_wp2
  go_loopw [1, 5] (fun lv iv wr => ∃ (c : Int) (i : Nat), lv = .int .i64 c ∧ iv = .int .i64 i ∧ i ≤ l.length ∧ c ≤ 2000 ∧ Hid (R = wgpV (l.drop i) c) ∧ Hid (Fuw w wr)) (fun _ iv _ => l.length - (RowKit.intOf iv).toNat)
  case atStart => exact ⟨a, 0, rfl, rfl, Nat.zero_le _, ha, HR, Fuw.refl _⟩
  case round =>
    obtain ⟨c, i, rfl, rfl, hi, hc, HN, hf⟩ := hrel
    by_cases hc0 : 0 ≤ c
    · by_cases hlt : i < l.length
      · obtain ⟨b, o, rfl, hk, k0, hv⟩ := (slP_on hf.out HS.out).get hlt
        have HA := Lib.hid (HN.out.trans (wgp_drop l i hlt hc0))
        obtain ⟨hy, d0, d1, d2, d3, ao', cap', d4, hs2⟩ := VC_of hv
        have hz : (bs l[i].k).size = l[i].k.length := bs_size _
        unfold maxLen at hk
        have hq : -1000000000000000000 ≤ c - ((l[i].k.length / 50 : Nat) : Int) ∧ c - ((l[i].k.length / 50 : Nat) : Int) ≤ 1000000 := by omega
        have HC := Lib.hid (fun w' (hf' : Fuw wr w') => HW.out l[i].v ao' cap' (c - ((l[i].k.length / 50 : Nat) : Int)) w' hq.1 hq.2 hy (hs2.onw hf'))
        have hlw := wei_lt' 12 l[i].v c hc0 ((l[i].k.length / 50 : Nat) : Int) (by omega)
        unfold vlv at HC
        clear hv hs2 hy
        obtain ⟨n, hn⟩ : ∃ n, n = l[i].k.length / 50 := ⟨_, rfl⟩
        rw [← hn] at HA HC hlw hq
        have n1 : (l[i].k.length : Int).tdiv 50 = (n : Int) := by
          rw [Int.tdiv_eq_ediv_of_nonneg (by omega)]; omega
        have n2 : (l[i].k.length : Int) / 50 = (n : Int) := by omega
        have n3 : IntKind.i64.wrap (n : Int) = (n : Int) := IntWalk.i64_in _ (by omega)
        have n4 : IntKind.i64.wrap (c - (n : Int)) = c - (n : Int) := IntWalk.i64_in _ (by omega)
        have k2 : (i : Int) < (l.length : Int) := by omega
        have k3 : (0 : Int) ≤ (i : Int) := by omega
        clear hn hq hk
        generalize weiV 12 l[i].v (c - (n : Int)) = r at *
        generalize l[i].v = y at *
        generalize l[i].k = key at *
        go_upto_region 4 with fail
        have ff : Fuw wr wr.drew := Fuw.drew (Fuw.refl wr)
        go_region_held3 (fun w' => w'.cell? ⟨b, o + i * 6, none⟩ = some (.string (bs key)) ∧ w'.cell? ⟨b, o + i * 6 + 1, none⟩ = some (.int .i64 y.kd) ∧ w'.cell? ⟨b, o + i * 6 + 1 + 1, none⟩ = some (.int .i64 y.nn) ∧ w'.cell? ⟨b, o + i * 6 + 1 + 2, none⟩ = some (.int .i64 y.dd) ∧ w'.cell? ⟨b, o + i * 6 + 1 + 3, none⟩ = some (.string (bs y.ss)) ∧ w'.cell? ⟨b, o + i * 6 + 1 + 4, none⟩ = some (.slice ao' y.ll.length cap'))
          (first | exact ⟨k0, d0, d1, d2, d3, d4⟩ | exact ⟨cellOnw (ff.trans f4) k0, cellOnw (ff.trans f4) d0, cellOnw (ff.trans f4) d1, cellOnw (ff.trans f4) d2, cellOnw (ff.trans f4) d3, cellOnw (ff.trans f4) d4⟩)
          (first | (go_at_call 36; refine (HC.out _ ff).mono ?_; rintro e w4 ⟨rfl, f4⟩))
        have HF := Lib.hid (hf.out.trans (ff.trans f4))
        clear n1 n2 n3 n4
        go_wp2
        go_roundw
        case rel => exact ⟨r, i + 1, rfl, by go_num, by omega, by omega, HA, HF⟩
        case measure => simp [RowKit.intOf]; omega
      · have HZ := Lib.hid (show R = c by rw [HN.out, List.drop_of_length_le (by omega)]; rfl)
        go_wp2
        go_ret
        exact ⟨ret_int HZ.out.symm, hf.out⟩
    · have HZ := Lib.hid (show R = c by rw [HN.out, wgp_neg (by omega)])
      by_cases hlt : i < l.length
      · go_wp2
        go_ret
        exact ⟨ret_int HZ.out.symm, hf.out⟩
      · go_wp2
        go_ret
        exact ⟨ret_int HZ.out.symm, hf.out⟩
end Go.Proofs.YtcadeijloobbmaaGreat
