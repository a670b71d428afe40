/-
  ChS; ChG: texts of one kind in one file; each part says what it holds.
-/
import Derived.Test.YtfbijdoomkgodaaGreatDoorTK16
import Derived.Test.YtfbijdoomkgodaaGreatDoorTM30
import Derived.Test.YtfbijdoomkgodaaGreatDoorTChI

/-! Package change: where an element stands, or would stand, in what is in order (binary search). Nothing that was there turns. -/
namespace Go.Proofs.YtfbijdoomkgodaaGreatDoor
open Go.RowKit

/-! Places by what the comparison says of each. -/
def posC : List Int → Nat
  | [] => 0
  | c :: r => if c < 0 then posC r + 1 else 0
def fndC (cs : List Int) : Bool := decide (cs[posC cs]? = some 0)
def MonC (cs : List Int) : Prop := ∀ (i j : Nat) (hi : i < cs.length) (hj : j < cs.length), i < j → 0 ≤ cs[i] → 0 < cs[j]
def BsC (cs : List Int) (i j : Nat) : Prop := i ≤ j ∧ j ≤ cs.length ∧ (∀ k (h : k < cs.length), k < i → cs[k] < 0) ∧ ∀ k (h : k < cs.length), j ≤ k → 0 ≤ cs[k]
theorem posC_is : ∀ (cs : List Int) (i : Nat), i ≤ cs.length → (∀ k (h : k < cs.length), k < i → cs[k] < 0) → (∀ k (h : k < cs.length), i ≤ k → 0 ≤ cs[k]) → posC cs = i
  | [], i, h, _, _ => by
    obtain rfl : i = 0 := by simpa using h
    rfl
  | c :: r, 0, _, _, h => by
    have := h 0 (by simp) (Nat.le_refl _)
    unfold posC
    rw [if_neg (by simpa using this)]
  | c :: r, i + 1, h, h1, h2 => by
    have k := h1 0 (by simp) (by omega)
    unfold posC
    rw [if_pos (by simpa using k), posC_is r i (by simpa using h) (fun k hk hki => by
      have := h1 (k + 1) (by simpa using hk) (by omega)
      simpa using this) (fun k hk hki => by
      have := h2 (k + 1) (by simpa using hk) (by omega)
      simpa using this)]
theorem bsC_mid {cs : List Int} {i j : Nat} (hm : MonC cs) (h : BsC cs i j) (hij : i < j) (hl : (i + j) / 2 < cs.length) :
    (cs[(i + j) / 2] < 0 → BsC cs ((i + j) / 2 + 1) j) ∧ (0 ≤ cs[(i + j) / 2] → BsC cs i ((i + j) / 2)) := by
  obtain ⟨h1, h2, h3, h4⟩ := h
  refine ⟨fun hx => ⟨by omega, h2, fun k hk hk' => ?_, h4⟩, fun hx => ⟨by omega, by omega, h3, fun k hk hk' => ?_⟩⟩
  · rcases Nat.lt_or_eq_of_le (show k ≤ (i + j) / 2 by omega) with g | g
    · rcases Int.lt_or_le cs[k] 0 with e | e
      · exact e
      · have := hm k _ hk hl g e; omega
    · subst g; exact hx
  · rcases Nat.lt_or_eq_of_le hk' with g | g
    · have := hm _ k hl hk g hx; omega
    · subst g; exact hx
theorem bsC_end {cs : List Int} {i : Nat} (h : BsC cs i i) : posC cs = i := posC_is cs i h.2.1 h.2.2.1 h.2.2.2
theorem fnd_in {cs : List Int} {i : Nat} (h : posC cs = i) (hi : i < cs.length) : fndC cs = decide (cs[i] = 0) := by
  unfold fndC
  rw [h, List.getElem?_eq_getElem hi, Bool.eq_iff_iff]
  simp
theorem fnd_out {cs : List Int} {i : Nat} (h : posC cs = i) (hi : cs.length ≤ i) : fndC cs = false := by
  unfold fndC
  rw [h, List.getElem?_eq_none hi]
  rfl
/-- What the search answers. -/
def RetBs (w : World) (cs : List Int) (e : Ending) (w' : World) : Prop := e = .returned (.tuple #[.int .i64 (posC cs : Nat), .bool (fndC cs)]) ∧ Fuw w w'
theorem cmps_any' (a b : List UInt8) (w : World) : Calls Tryz.prog 144 #[.string (bs a), .string (bs b)] w (PureI w (strc a b)) := by
  have := lcmps_any (bs a) (bs b) w
  rw [bs_data, bs_data] at this
  exact this.mono fun _ _ h => ⟨h.1, h.2.symm⟩

/-! At nodes. -/
theorem fnn1_any (n : Nd) (al ap : Option Addr) (cl cp : Nat) (x : Int) (w : World) : Calls Tryz.prog 169 #[ndv n al ap cl cp, .int .i64 x] w (FwI w (intc n.id x)) := by
  unfold ndv
  generalize n.id = k
  go_enter Tryz.func169, Tryz.ntmps169
  go_wp2_with (go_at_call 132; refine (cmpi_any _ _ _).mono ?_; rintro e1 w1 ⟨rfl, rfl⟩)
  go_ret
  exact ⟨rfl, fuwA _ _⟩
set_option maxHeartbeats 3200000 in
set_option maxRecDepth 100000 in
theorem fnn_any (ns : List Nd) (ao : Option Addr) (cap : Nat) (x : Int) (w : World) (hs : SlN w ao ns cap) (hp : MonC (ns.map fun n => intc n.id x)) (hn : ns.length ≤ 5000) :
    Calls Tryz.prog 130 #[.slice ao ns.length cap, .int .i64 x, .func (.func 169) #[] #[]] w (RetBs w (ns.map fun n => intc n.id x)) := by
  have HS := Lib.hid hs
  have HP := Lib.hid hp
  obtain ⟨cs, hcs⟩ : ∃ cs, cs = ns.map fun n => intc n.id x := ⟨_, rfl⟩
  have hcl : cs.length = ns.length := by rw [hcs, List.length_map]
  have HG := Lib.hid (show ∀ (k : Nat) (h : k < ns.length) (h' : k < cs.length), cs[k] = (fun n : Nd => intc n.id x) ns[k] from fun k h h' => by simp only [hcs, List.getElem_map])
  rw [← hcs] at HP ⊢
  clear hcs
  have HB := Lib.hid (show BsC cs 0 ns.length from ⟨Nat.zero_le _, by omega, fun k _ h => absurd h (by omega), fun k h h' => absurd h (by omega)⟩)
  have HL := Lib.hid hcl
  clear hs hp hcl
  go_enter Tryz.func130, Tryz.ntmps130
  go_wp2
  go_loopw [9, 10] (fun iv jv wr => ∃ i j : Nat, iv = .int .i64 i ∧ jv = .int .i64 j ∧ i ≤ j ∧ j ≤ ns.length ∧ Hid (BsC cs i j) ∧ Hid (Fuw w wr)) (fun iv jv _ => (RowKit.intOf jv).toNat - (RowKit.intOf iv).toNat)
  case atStart => exact ⟨0, ns.length, rfl, rfl, Nat.zero_le _, Nat.le_refl _, HB, Fuw.refl _⟩
  case round =>
    obtain ⟨i, j, rfl, rfl, hij, hj, HI, hf⟩ := hrel
    by_cases hlt : i < j
    · have hm : (i + j) / 2 < ns.length := by omega
      obtain ⟨b, o, rfl, hv⟩ := (slN_on hf.out HS.out).get hm
      obtain ⟨-, c0, ⟨a1, k1, c1, -⟩, a2, k2, c2, -⟩ := hv
      have HM := Lib.hid (bsC_mid HP.out HI.out hlt (by rw [HL.out]; exact hm))
      have HGM := Lib.hid (HG.out _ hm (by rw [HL.out]; exact hm))
      have hh : ((i : Int) + (j : Int)) / 2 = ((i + j) / 2 : Nat) := by omega
      have HC := Lib.hid (fun w' => fnn1_any ns[(i + j) / 2] a1 a2 k1 k2 x w')
      unfold ndv at HC
      have h1 : i ≤ (i + j) / 2 := by omega
      have h2 : (i + j) / 2 < j := by omega
      rw [HGM.out] at HM
      clear HGM
      generalize ns[(i + j) / 2] = n at *
      generalize (i + j) / 2 = m at *
      try dsimp only at HM
      generalize intc n.id x = q at *
      go_wp2_with fail
      go_at_call 169; refine (HC.out _).mono ?_; rintro e1 w1 ⟨rfl, f1⟩
      clear hh
      have HF := Lib.hid (hf.out.trans f1)
      by_cases hx : q < 0
      · have HZ := Lib.hid (HM.out.1 hx)
        have hx' : decide (q < 0) = true := decide_eq_true hx
        go_wp2
        go_roundw
        case rel => exact ⟨m + 1, j, by go_num, rfl, by omega, hj, HZ, HF⟩
        case measure => simp [RowKit.intOf]; omega
      · have HZ := Lib.hid (HM.out.2 (by omega))
        have hx' : decide (q < 0) = false := decide_eq_false hx
        go_wp2
        go_roundw
        case rel => exact ⟨i, m, rfl, rfl, h1, by omega, HZ, HF⟩
        case measure => simp [RowKit.intOf]; omega
    · obtain rfl : i = j := by omega
      have HE := Lib.hid (bsC_end HI.out)
      by_cases hi : i < ns.length
      · have HE2 := Lib.hid (show ((fun n : Nd => intc n.id x) ns[i] = 0 → fndC cs = true) ∧ (¬ (fun n : Nd => intc n.id x) ns[i] = 0 → fndC cs = false) by rw [fnd_in HE.out (by rw [HL.out]; exact hi), HG.out i hi]; exact ⟨fun h => decide_eq_true h, fun h => decide_eq_false h⟩)
        obtain ⟨b, o, rfl, hv⟩ := (slN_on hf.out HS.out).get hi
        obtain ⟨-, c0, ⟨a1, k1, c1, -⟩, a2, k2, c2, -⟩ := hv
        have HC := Lib.hid (fun w' => fnn1_any ns[i] a1 a2 k1 k2 x w')
        unfold ndv at HC

        generalize ns[i] = n at *
        try dsimp only at HE2
        generalize intc n.id x = q at *
        go_wp2_with fail
        go_at_call 169; refine (HC.out _).mono ?_; rintro e1 w1 ⟨rfl, f1⟩
        have HF := Lib.hid (hf.out.trans f1)
        by_cases hx : q = 0
        · have HT := Lib.hid (show fndC cs = true from HE2.out.1 hx)
          subst hx
          go_wp2
          go_ret2
          exact ⟨(by rw [HT.out, HE.out]; rfl), HF.out⟩
        · have hq : (q == 0) = false := by rw [beq_eq_false_iff_ne]; exact hx
          have HT := Lib.hid (show fndC cs = false from HE2.out.2 hx)
          clear hx
          go_wp2
          go_ret2
          exact ⟨(by rw [HT.out, HE.out]; rfl), HF.out⟩
      · have HT := Lib.hid (show fndC cs = false from fnd_out HE.out (by rw [HL.out]; omega))
        go_wp2
        go_ret2
        exact ⟨(by rw [HT.out, HE.out]; rfl), hf.out⟩

/-! At edges. -/
theorem fne1_any (n : Ed) (ap : Option Addr) (cp : Nat) (x : Int) (w : World) : Calls Tryz.prog 173 #[edv n ap cp, .int .i64 x] w (FwI w (intc n.id x)) := by
  unfold edv
  generalize n.id = k
  go_enter Tryz.func173, Tryz.ntmps173
  go_wp2_with (go_at_call 132; refine (cmpi_any _ _ _).mono ?_; rintro e1 w1 ⟨rfl, rfl⟩)
  go_ret
  exact ⟨rfl, fuwA _ _⟩
set_option maxHeartbeats 3200000 in
set_option maxRecDepth 100000 in
theorem fne_any (ns : List Ed) (ao : Option Addr) (cap : Nat) (x : Int) (w : World) (hs : SlE w ao ns cap) (hp : MonC (ns.map fun n => intc n.id x)) (hn : ns.length ≤ 5000) :
    Calls Tryz.prog 172 #[.slice ao ns.length cap, .int .i64 x, .func (.func 173) #[] #[]] w (RetBs w (ns.map fun n => intc n.id x)) := by
  have HS := Lib.hid hs
  have HP := Lib.hid hp
  obtain ⟨cs, hcs⟩ : ∃ cs, cs = ns.map fun n => intc n.id x := ⟨_, rfl⟩
  have hcl : cs.length = ns.length := by rw [hcs, List.length_map]
  have HG := Lib.hid (show ∀ (k : Nat) (h : k < ns.length) (h' : k < cs.length), cs[k] = (fun n : Ed => intc n.id x) ns[k] from fun k h h' => by simp only [hcs, List.getElem_map])
  rw [← hcs] at HP ⊢
  clear hcs
  have HB := Lib.hid (show BsC cs 0 ns.length from ⟨Nat.zero_le _, by omega, fun k _ h => absurd h (by omega), fun k h h' => absurd h (by omega)⟩)
  have HL := Lib.hid hcl
  clear hs hp hcl
  go_enter Tryz.func172, Tryz.ntmps172
  go_wp2
  go_loopw [9, 10] (fun iv jv wr => ∃ i j : Nat, iv = .int .i64 i ∧ jv = .int .i64 j ∧ i ≤ j ∧ j ≤ ns.length ∧ Hid (BsC cs i j) ∧ Hid (Fuw w wr)) (fun iv jv _ => (RowKit.intOf jv).toNat - (RowKit.intOf iv).toNat)
  case atStart => exact ⟨0, ns.length, rfl, rfl, Nat.zero_le _, Nat.le_refl _, HB, Fuw.refl _⟩
  case round =>
    obtain ⟨i, j, rfl, rfl, hij, hj, HI, hf⟩ := hrel
    by_cases hlt : i < j
    · have hm : (i + j) / 2 < ns.length := by omega
      obtain ⟨b, o, rfl, hv⟩ := (slE_on hf.out HS.out).get hm
      obtain ⟨-, -, -, -, c0, c1, c2, c3, a2, k2, c4, -⟩ := hv
      have HM := Lib.hid (bsC_mid HP.out HI.out hlt (by rw [HL.out]; exact hm))
      have HGM := Lib.hid (HG.out _ hm (by rw [HL.out]; exact hm))
      have hh : ((i : Int) + (j : Int)) / 2 = ((i + j) / 2 : Nat) := by omega
      have HC := Lib.hid (fun w' => fne1_any ns[(i + j) / 2] a2 k2 x w')
      unfold edv at HC
      have h1 : i ≤ (i + j) / 2 := by omega
      have h2 : (i + j) / 2 < j := by omega
      rw [HGM.out] at HM
      clear HGM
      generalize ns[(i + j) / 2] = n at *
      generalize (i + j) / 2 = m at *
      try dsimp only at HM
      generalize intc n.id x = q at *
      go_wp2_with fail
      go_at_call 173; refine (HC.out _).mono ?_; rintro e1 w1 ⟨rfl, f1⟩
      clear hh
      have HF := Lib.hid (hf.out.trans f1)
      by_cases hx : q < 0
      · have HZ := Lib.hid (HM.out.1 hx)
        have hx' : decide (q < 0) = true := decide_eq_true hx
        go_wp2
        go_roundw
        case rel => exact ⟨m + 1, j, by go_num, rfl, by omega, hj, HZ, HF⟩
        case measure => simp [RowKit.intOf]; omega
      · have HZ := Lib.hid (HM.out.2 (by omega))
        have hx' : decide (q < 0) = false := decide_eq_false hx
        go_wp2
        go_roundw
        case rel => exact ⟨i, m, rfl, rfl, h1, by omega, HZ, HF⟩
        case measure => simp [RowKit.intOf]; omega
    · obtain rfl : i = j := by omega
      have HE := Lib.hid (bsC_end HI.out)
      by_cases hi : i < ns.length
      · have HE2 := Lib.hid (show ((fun n : Ed => intc n.id x) ns[i] = 0 → fndC cs = true) ∧ (¬ (fun n : Ed => intc n.id x) ns[i] = 0 → fndC cs = false) by rw [fnd_in HE.out (by rw [HL.out]; exact hi), HG.out i hi]; exact ⟨fun h => decide_eq_true h, fun h => decide_eq_false h⟩)
        obtain ⟨b, o, rfl, hv⟩ := (slE_on hf.out HS.out).get hi
        obtain ⟨-, -, -, -, c0, c1, c2, c3, a2, k2, c4, -⟩ := hv
        have HC := Lib.hid (fun w' => fne1_any ns[i] a2 k2 x w')
        unfold edv at HC

        generalize ns[i] = n at *
        try dsimp only at HE2
        generalize intc n.id x = q at *
        go_wp2_with fail
        go_at_call 173; refine (HC.out _).mono ?_; rintro e1 w1 ⟨rfl, f1⟩
        have HF := Lib.hid (hf.out.trans f1)
        by_cases hx : q = 0
        · have HT := Lib.hid (show fndC cs = true from HE2.out.1 hx)
          subst hx
          go_wp2
          go_ret2
          exact ⟨(by rw [HT.out, HE.out]; rfl), HF.out⟩
        · have hq : (q == 0) = false := by rw [beq_eq_false_iff_ne]; exact hx
          have HT := Lib.hid (show fndC cs = false from HE2.out.2 hx)
          clear hx
          go_wp2
          go_ret2
          exact ⟨(by rw [HT.out, HE.out]; rfl), HF.out⟩
      · have HT := Lib.hid (show fndC cs = false from fnd_out HE.out (by rw [HL.out]; omega))
        go_wp2
        go_ret2
        exact ⟨(by rw [HT.out, HE.out]; rfl), hf.out⟩

/-! At properties. -/
theorem fnp1_any (n : Pp) (av : Option Addr) (cv : Nat) (x : List UInt8) (w : World) : Calls Tryz.prog 177 #[.agg #[.string (bs n.k), .int .i64 n.v.kd, .int .i64 n.v.nn, .int .i64 n.v.dd, .string (bs n.v.ss), .slice av n.v.ll.length cv], .string (bs x)] w (FwI w (strc n.k x)) := by
  generalize n.k = k
  generalize n.v = y
  go_enter Tryz.func177, Tryz.ntmps177
  go_wp2_with (go_at_call 144; refine (cmps_any' _ _ _).mono ?_; rintro e1 w1 ⟨rfl, rfl⟩)
  go_ret
  exact ⟨rfl, fuwA _ _⟩
set_option maxHeartbeats 3200000 in
set_option maxRecDepth 100000 in
theorem fnp_any (ns : List Pp) (ao : Option Addr) (cap : Nat) (x : List UInt8) (w : World) (hs : SlP w ao ns cap) (hp : MonC (ns.map fun n => strc n.k x)) (hn : ns.length ≤ 5000) :
    Calls Tryz.prog 176 #[.slice ao ns.length cap, .string (bs x), .func (.func 177) #[] #[]] w (RetBs w (ns.map fun n => strc n.k x)) := by
  have HS := Lib.hid hs
  have HP := Lib.hid hp
  obtain ⟨cs, hcs⟩ : ∃ cs, cs = ns.map fun n => strc n.k x := ⟨_, rfl⟩
  have hcl : cs.length = ns.length := by rw [hcs, List.length_map]
  have HG := Lib.hid (show ∀ (k : Nat) (h : k < ns.length) (h' : k < cs.length), cs[k] = (fun n : Pp => strc n.k x) ns[k] from fun k h h' => by simp only [hcs, List.getElem_map])
  rw [← hcs] at HP ⊢
  clear hcs
  have HB := Lib.hid (show BsC cs 0 ns.length from ⟨Nat.zero_le _, by omega, fun k _ h => absurd h (by omega), fun k h h' => absurd h (by omega)⟩)
  have HL := Lib.hid hcl
  clear hs hp hcl
  go_enter Tryz.func176, Tryz.ntmps176
  go_wp2
  go_loopw [9, 10] (fun iv jv wr => ∃ i j : Nat, iv = .int .i64 i ∧ jv = .int .i64 j ∧ i ≤ j ∧ j ≤ ns.length ∧ Hid (BsC cs i j) ∧ Hid (Fuw w wr)) (fun iv jv _ => (RowKit.intOf jv).toNat - (RowKit.intOf iv).toNat)
  case atStart => exact ⟨0, ns.length, rfl, rfl, Nat.zero_le _, Nat.le_refl _, HB, Fuw.refl _⟩
  case round =>
    obtain ⟨i, j, rfl, rfl, hij, hj, HI, hf⟩ := hrel
    by_cases hlt : i < j
    · have hm : (i + j) / 2 < ns.length := by omega
      obtain ⟨b, o, rfl, hv⟩ := (slP_on hf.out HS.out).get hm
      obtain ⟨-, c0, hvc⟩ := hv
      obtain ⟨-, c1, c2, c3, c4, a2, k2, c5, -⟩ := VC_of hvc
      clear hvc
      have HM := Lib.hid (bsC_mid HP.out HI.out hlt (by rw [HL.out]; exact hm))
      have HGM := Lib.hid (HG.out _ hm (by rw [HL.out]; exact hm))
      have hh : ((i : Int) + (j : Int)) / 2 = ((i + j) / 2 : Nat) := by omega
      have HC := Lib.hid (fun w' => fnp1_any ns[(i + j) / 2] a2 k2 x w')
      skip
      have h1 : i ≤ (i + j) / 2 := by omega
      have h2 : (i + j) / 2 < j := by omega
      rw [HGM.out] at HM
      clear HGM
      generalize ns[(i + j) / 2] = n at *
      generalize (i + j) / 2 = m at *
      try dsimp only at HM
      generalize strc n.k x = q at *
      go_wp2_with fail
      go_at_call 177; refine (HC.out _).mono ?_; rintro e1 w1 ⟨rfl, f1⟩
      clear hh
      have HF := Lib.hid (hf.out.trans f1)
      by_cases hx : q < 0
      · have HZ := Lib.hid (HM.out.1 hx)
        have hx' : decide (q < 0) = true := decide_eq_true hx
        go_wp2
        go_roundw
        case rel => exact ⟨m + 1, j, by go_num, rfl, by omega, hj, HZ, HF⟩
        case measure => simp [RowKit.intOf]; omega
      · have HZ := Lib.hid (HM.out.2 (by omega))
        have hx' : decide (q < 0) = false := decide_eq_false hx
        go_wp2
        go_roundw
        case rel => exact ⟨i, m, rfl, rfl, h1, by omega, HZ, HF⟩
        case measure => simp [RowKit.intOf]; omega
    · obtain rfl : i = j := by omega
      have HE := Lib.hid (bsC_end HI.out)
      by_cases hi : i < ns.length
      · have HE2 := Lib.hid (show ((fun n : Pp => strc n.k x) ns[i] = 0 → fndC cs = true) ∧ (¬ (fun n : Pp => strc n.k x) ns[i] = 0 → fndC cs = false) by rw [fnd_in HE.out (by rw [HL.out]; exact hi), HG.out i hi]; exact ⟨fun h => decide_eq_true h, fun h => decide_eq_false h⟩)
        obtain ⟨b, o, rfl, hv⟩ := (slP_on hf.out HS.out).get hi
        obtain ⟨-, c0, hvc⟩ := hv
        obtain ⟨-, c1, c2, c3, c4, a2, k2, c5, -⟩ := VC_of hvc
        clear hvc
        have HC := Lib.hid (fun w' => fnp1_any ns[i] a2 k2 x w')
        skip

        generalize ns[i] = n at *
        try dsimp only at HE2
        generalize strc n.k x = q at *
        go_wp2_with fail
        go_at_call 177; refine (HC.out _).mono ?_; rintro e1 w1 ⟨rfl, f1⟩
        have HF := Lib.hid (hf.out.trans f1)
        by_cases hx : q = 0
        · have HT := Lib.hid (show fndC cs = true from HE2.out.1 hx)
          subst hx
          go_wp2
          go_ret2
          exact ⟨(by rw [HT.out, HE.out]; rfl), HF.out⟩
        · have hq : (q == 0) = false := by rw [beq_eq_false_iff_ne]; exact hx
          have HT := Lib.hid (show fndC cs = false from HE2.out.2 hx)
          clear hx
          go_wp2
          go_ret2
          exact ⟨(by rw [HT.out, HE.out]; rfl), HF.out⟩
      · have HT := Lib.hid (show fndC cs = false from fnd_out HE.out (by rw [HL.out]; omega))
        go_wp2
        go_ret2
        exact ⟨(by rw [HT.out, HE.out]; rfl), hf.out⟩
end Go.Proofs.YtfbijdoomkgodaaGreatDoor

/-! A graph that a call has made for itself: every slice of it in a row of its own, the rows apart; what can be read of it. No program's function is walked here. -/
namespace Go.Proofs.YtfbijdoomkgodaaGreatDoor
open Go.RowKit

/-- A node with its slices: its labels, its properties with their values' places. -/
structure Np where
  id : Int
  ls : List (List UInt8)
  vl : Value
  pm : List (Pp × AC)
  vp : Value
structure Ep where
  id : Int
  fr : Int
  tt : Int
  ty : List UInt8
  pm : List (Pp × AC)
  vp : Value
def Np.nd (x : Np) : Nd := ⟨x.id, x.ls, x.pm.map Prod.fst⟩
def Ep.ed (x : Ep) : Ed := ⟨x.id, x.fr, x.tt, x.ty, x.pm.map Prod.fst⟩
def Np.C (x : Np) : List Value := [.int .i64 x.id, x.vl, x.vp]
def Ep.C (x : Ep) : List Value := [.int .i64 x.id, .int .i64 x.fr, .int .i64 x.tt, .string (bs x.ty), x.vp]
def rowL (v : Value) (ls : List (List UInt8)) : Rw := ⟨9, 1, v, ls.length, sC ls⟩
def rowP (v : Value) (pm : List (Pp × AC)) : Rw := ⟨53, 6, v, pm.length, LP.cs pm⟩
def Np.rows (x : Np) : List Rw := [rowL x.vl x.ls, rowP x.vp x.pm]
def Ep.rows (x : Ep) : List Rw := [rowP x.vp x.pm]
def csN (ns : List Np) : List Value := ns.flatMap Np.C
def csE (es : List Ep) : List Value := es.flatMap Ep.C
def rowN (v : Value) (ns : List Np) : Rw := ⟨56, 3, v, ns.length, csN ns⟩
def rowE (v : Value) (es : List Ep) : Rw := ⟨58, 5, v, es.length, csE es⟩
/-- The rows of the nodes and of the edges; others that the call holds besides. -/
def inR (ns : List Np) (es : List Ep) (xs : List Rw) : List Rw := ns.flatMap Np.rows ++ (es.flatMap Ep.rows ++ xs)
theorem csN_len (ns : List Np) : (csN ns).length = ns.length * 3 := by
  unfold csN
  rw [List.length_flatMap]
  induction ns with
  | nil => rfl
  | cons x r ih => simp only [List.map_cons, List.sum_cons, List.length_cons] at *; rw [ih]; show 3 + _ = _; omega
theorem csE_len (es : List Ep) : (csE es).length = es.length * 5 := by
  unfold csE
  rw [List.length_flatMap]
  induction es with
  | nil => rfl
  | cons x r ih => simp only [List.map_cons, List.sum_cons, List.length_cons] at *; rw [ih]; show 5 + _ = _; omega
theorem csN_get : ∀ (ns : List Np) (i j : Nat) (h : i < ns.length), j < 3 → (csN ns)[i * 3 + j]? = (ns[i].C)[j]?
  | x :: r, 0, j, _, hj => by
    show (x.C ++ csN r)[0 * 3 + j]? = _
    rw [Nat.zero_mul, Nat.zero_add, List.getElem?_append_left (show j < x.C.length from hj)]; rfl
  | x :: r, i + 1, j, h, hj => by
    show (x.C ++ csN r)[(i + 1) * 3 + j]? = _
    have e : (i + 1) * 3 + j = 3 + (i * 3 + j) := by omega
    have e3 : x.C.length = 3 := rfl
    rw [e, List.getElem?_append_right (by rw [e3]; omega), e3, Nat.add_sub_cancel_left, csN_get r i j (by simpa using h) hj]; rfl
theorem csE_get : ∀ (es : List Ep) (i j : Nat) (h : i < es.length), j < 5 → (csE es)[i * 5 + j]? = (es[i].C)[j]?
  | x :: r, 0, j, _, hj => by
    show (x.C ++ csE r)[0 * 5 + j]? = _
    rw [Nat.zero_mul, Nat.zero_add, List.getElem?_append_left (show j < x.C.length from hj)]; rfl
  | x :: r, i + 1, j, h, hj => by
    show (x.C ++ csE r)[(i + 1) * 5 + j]? = _
    have e : (i + 1) * 5 + j = 5 + (i * 5 + j) := by omega
    have e3 : x.C.length = 5 := rfl
    rw [e, List.getElem?_append_right (by rw [e3]; omega), e3, Nat.add_sub_cancel_left, csE_get r i j (by simpa using h) hj]; rfl
/-- What is known of the numbers, the words and the values, whatever the rows hold. -/
def PmOk (w0 : World) (pm : List (Pp × AC)) : Prop := ∀ p ∈ pm, LP.I p.1 ∧ SlV w0 p.2.1 p.1.v.ll p.2.2
structure Np.Ok (w0 : World) (x : Np) : Prop where
  i : I64 x.id
  l : ∀ s ∈ x.ls, s.length ≤ maxLen
  p : PmOk w0 x.pm
structure Ep.Ok (w0 : World) (x : Ep) : Prop where
  i : I64 x.id
  f : I64 x.fr
  t : I64 x.tt
  y : x.ty.length ≤ maxLen
  p : PmOk w0 x.pm
/-- A graph's parts with their slices. -/
structure Gp where
  vn : Value
  ve : Value
  ns : List Np
  es : List Ep
  nn : Int
  ne : Int
  xs : List Rw
def Gp.gr (G : Gp) : Gr := ⟨G.ns.map Np.nd, G.es.map Ep.ed, G.nn, G.ne⟩
def Gp.rows (G : Gp) : List Rw := rowN G.vn G.ns :: rowE G.ve G.es :: inR G.ns G.es G.xs
/-- It lies in blocks of its own from base on. -/
structure GOwn (w0 w : World) (base : Nat) (G : Gp) : Prop where
  rows : Rows w base G.rows
  no : ∀ x ∈ G.ns, x.Ok w0
  eo : ∀ x ∈ G.es, x.Ok w0
  i1 : I64 G.nn
  i2 : I64 G.ne
  fu : Fuw w0 w
  lo : w0.heap.size ≤ base
theorem GOwn.later {w0 w w' : World} {base : Nat} {G : Gp} (h : GOwn w0 w base G) (hf : Fuw w w') : GOwn w0 w' base G := ⟨h.rows.later hf, h.no, h.eo, h.i1, h.i2, h.fu.trans hf, h.lo⟩
theorem pm_row {w0 w : World} {base : Nat} {v : Value} {pm : List (Pp × AC)} (h : (rowP v pm).Own w base) (ho : PmOk w0 pm) (hf : Fuw w0 w) : ∃ a c, v = .slice a pm.length c ∧ SlP w a (pm.map Prod.fst) c := by
  obtain ⟨a, c, e, -, hs⟩ := Lay.sl_own (Y := LP) h (fun p hp => (ho p hp).1) (fun p hp => (ho p hp).2.onw hf)
  exact ⟨a, c, e, hs⟩
theorem ls_row {w : World} {base : Nat} {v : Value} {ls : List (List UInt8)} (h : (rowL v ls).Own w base) (hl : ∀ s ∈ ls, s.length ≤ maxLen) : ∃ a c, v = .slice a ls.length c ∧ SlS w a ls c := by
  obtain ⟨a, c, e, -, hs⟩ := slS_of_own h hl
  exact ⟨a, c, e, hs⟩
theorem mem_rowsN {ns : List Np} {es : List Ep} {xs : List Rw} {x : Np} (hx : x ∈ ns) {r : Rw} (hr : r ∈ x.rows) : r ∈ inR ns es xs := List.mem_append.2 (.inl (List.mem_flatMap.2 ⟨x, hx, hr⟩))
theorem mem_rowsE {ns : List Np} {es : List Ep} {xs : List Rw} {x : Ep} (hx : x ∈ es) {r : Rw} (hr : r ∈ x.rows) : r ∈ inR ns es xs := List.mem_append.2 (.inr (List.mem_append.2 (.inl (List.mem_flatMap.2 ⟨x, hx, hr⟩))))
theorem mem_rowsX {ns : List Np} {es : List Ep} {xs : List Rw} {r : Rw} (hr : r ∈ xs) : r ∈ inR ns es xs := List.mem_append.2 (.inr (List.mem_append.2 (.inr hr)))
theorem GOwn.nrow {w0 w : World} {base : Nat} {G : Gp} (h : GOwn w0 w base G) : (rowN G.vn G.ns).Own w base := h.rows.own _ (List.mem_cons_self ..)
theorem GOwn.erow {w0 w : World} {base : Nat} {G : Gp} (h : GOwn w0 w base G) : (rowE G.ve G.es).Own w base := h.rows.own _ (List.mem_cons_of_mem _ (List.mem_cons_self ..))
theorem GOwn.lrow {w0 w : World} {base : Nat} {G : Gp} (h : GOwn w0 w base G) {x : Np} (hx : x ∈ G.ns) : (rowL x.vl x.ls).Own w base := h.rows.own _ (List.mem_cons_of_mem _ (List.mem_cons_of_mem _ (mem_rowsN hx (List.mem_cons_self ..))))
theorem GOwn.prow {w0 w : World} {base : Nat} {G : Gp} (h : GOwn w0 w base G) {x : Np} (hx : x ∈ G.ns) : (rowP x.vp x.pm).Own w base := h.rows.own _ (List.mem_cons_of_mem _ (List.mem_cons_of_mem _ (mem_rowsN hx (List.mem_cons_of_mem _ (List.mem_cons_self ..)))))
theorem GOwn.qrow {w0 w : World} {base : Nat} {G : Gp} (h : GOwn w0 w base G) {x : Ep} (hx : x ∈ G.es) : (rowP x.vp x.pm).Own w base := h.rows.own _ (List.mem_cons_of_mem _ (List.mem_cons_of_mem _ (mem_rowsE hx (List.mem_cons_self ..))))
/-- The nodes can be read. -/
theorem GOwn.sln {w0 w : World} {base : Nat} {G : Gp} (h : GOwn w0 w base G) : ∃ a c, G.vn = .slice a G.ns.length c ∧ SlN w a (G.ns.map Np.nd) c := by
  have ho := h.nrow
  rcases ho.2 with ⟨e, h0⟩ | ⟨g, cap, cur, e, hb, hh, h1, h2, h3, h4⟩
  · have e0 : G.ns = [] := List.eq_nil_of_length_eq_zero h0
    have e' : G.vn = .slice none 0 0 := e
    rw [e0]
    exact ⟨none, 0, e', Sl.empty _⟩
  · have e' : G.vn = .slice (some ⟨g, 0, none⟩) G.ns.length cap := e
    refine ⟨_, cap, e', by rw [List.length_map]; exact h1, h2, (fun k => by cases k), fun _ => ⟨g, 0, rfl, fun i hi => ?_⟩⟩
    rw [List.length_map] at hi
    rw [List.getElem_map]
    have hm : G.ns[i] ∈ G.ns := List.getElem_mem hi
    have ho' : w.ownsRow base 56 3 (.slice (some ⟨g, 0, none⟩) G.ns.length cap) G.ns.length (csN G.ns) := by rw [← e']; exact ho
    have hc : ∀ j, j < 3 → w.cell? ⟨g, 0 + i * 3 + j, none⟩ = (G.ns[i].C)[j]? := fun j hj => by
      have k := ho'.cellAt (i * 3 + j) (by omega)
      rw [csN_get G.ns i j hi hj] at k
      rwa [Nat.zero_add]
    obtain ⟨al, cl, el, sl⟩ := ls_row (h.lrow hm) (h.no _ hm).l
    obtain ⟨ap, cp, ep, sp⟩ := pm_row (h.prow hm) (h.no _ hm).p h.fu
    have k1 := hc 1 (by decide)
    have k2 := hc 2 (by decide)
    have l1 : (G.ns[i].C)[1]? = some (.slice al G.ns[i].ls.length cl) := by rw [← el]; rfl
    have l2 : (G.ns[i].C)[2]? = some (.slice ap (G.ns[i].pm.map Prod.fst).length cp) := by rw [List.length_map, ← ep]; rfl
    exact ⟨(h.no _ hm).i, hc 0 (by decide), ⟨al, cl, k1.trans l1, sl⟩, ap, cp, k2.trans l2, sp⟩
/-- The edges can be read. -/
theorem GOwn.sle {w0 w : World} {base : Nat} {G : Gp} (h : GOwn w0 w base G) : ∃ a c, G.ve = .slice a G.es.length c ∧ SlE w a (G.es.map Ep.ed) c := by
  have ho := h.erow
  rcases ho.2 with ⟨e, h0⟩ | ⟨g, cap, cur, e, hb, hh, h1, h2, h3, h4⟩
  · have e0 : G.es = [] := List.eq_nil_of_length_eq_zero h0
    have e' : G.ve = .slice none 0 0 := e
    rw [e0]
    exact ⟨none, 0, e', Sl.empty _⟩
  · have e' : G.ve = .slice (some ⟨g, 0, none⟩) G.es.length cap := e
    refine ⟨_, cap, e', by rw [List.length_map]; exact h1, h2, (fun k => by cases k), fun _ => ⟨g, 0, rfl, fun i hi => ?_⟩⟩
    rw [List.length_map] at hi
    rw [List.getElem_map]
    have hm : G.es[i] ∈ G.es := List.getElem_mem hi
    have ho' : w.ownsRow base 58 5 (.slice (some ⟨g, 0, none⟩) G.es.length cap) G.es.length (csE G.es) := by rw [← e']; exact ho
    have hc : ∀ j, j < 5 → w.cell? ⟨g, 0 + i * 5 + j, none⟩ = (G.es[i].C)[j]? := fun j hj => by
      have k := ho'.cellAt (i * 5 + j) (by omega)
      rw [csE_get G.es i j hi hj] at k
      rwa [Nat.zero_add]
    obtain ⟨ap, cp, ep, sp⟩ := pm_row (h.qrow hm) (h.eo _ hm).p h.fu
    have k4 := hc 4 (by decide)
    have l4 : (G.es[i].C)[4]? = some (.slice ap (G.es[i].pm.map Prod.fst).length cp) := by rw [List.length_map, ← ep]; rfl
    exact ⟨(h.eo _ hm).i, (h.eo _ hm).f, (h.eo _ hm).t, (h.eo _ hm).y, hc 0 (by decide), hc 1 (by decide), hc 2 (by decide), hc 3 (by decide), ap, cp, k4.trans l4, sp⟩
theorem GOwn.gin {w0 w : World} {base : Nat} {G : Gp} (h : GOwn w0 w base G) : ∃ an ae cn ce, G.vn = .slice an G.ns.length cn ∧ G.ve = .slice ae G.es.length ce ∧ GIn w G.gr an ae cn ce := by
  obtain ⟨an, cn, e1, s1⟩ := h.sln
  obtain ⟨ae, ce, e2, s2⟩ := h.sle
  exact ⟨an, ae, cn, ce, e1, e2, s1, s2, h.i1, h.i2⟩
/-- Places. -/
theorem posC_map {α : Type} (f : α → Int) (x : Int) : ∀ l : List α, posC (l.map fun n => intc (f n) x) = atI (l.map f) x
  | [] => rfl
  | n :: r => by
    show (if intc (f n) x < 0 then posC (r.map fun n => intc (f n) x) + 1 else 0) = if f n < x then atI (r.map f) x + 1 else 0
    rw [posC_map f x r]
    by_cases h : f n < x
    · rw [if_pos h, if_pos (by unfold intc; rw [if_pos h]; decide)]
    · rw [if_neg h, if_neg (by unfold intc; rw [if_neg h]; split <;> decide)]
theorem intc_zero {a b : Int} : intc a b = 0 ↔ a = b := by
  unfold intc
  split
  · constructor
    · intro h; cases h
    · intro h; omega
  · split
    · constructor
      · intro h; cases h
      · intro h; omega
    · constructor
      · intro _; omega
      · intro _; rfl
theorem intc_nn {a b : Int} : 0 ≤ intc a b ↔ b ≤ a := by
  unfold intc
  split
  · constructor
    · intro h; exact absurd h (by decide)
    · intro h; omega
  · split
    · constructor
      · intro _; omega
      · intro _; decide
    · constructor
      · intro _; omega
      · intro _; decide
theorem intc_pos {a b : Int} : 0 < intc a b ↔ b < a := by
  unfold intc
  split
  · constructor
    · intro h; exact absurd h (by decide)
    · intro h; omega
  · split
    · constructor
      · intro _; omega
      · intro _; decide
    · constructor
      · intro h; exact absurd h (by decide)
      · intro _; omega
theorem monC_map {α : Type} (f : α → Int) (x : Int) {l : List α} (h : l.Pairwise fun a b => f a < f b) : MonC (l.map fun n => intc (f n) x) := by
  intro i j hi hj hij hk
  rw [List.length_map] at hi hj
  rw [List.getElem_map] at *
  have := List.pairwise_iff_getElem.1 h i j hi hj hij
  rw [intc_nn] at hk
  rw [intc_pos]
  omega
theorem atI_spec {l : List Int} {x : Int} (h : l.Pairwise (· < ·)) (hx : x ∈ l) : l[atI l x]? = some x := by
  induction l with
  | nil => cases hx
  | cons y r ih =>
    have h' := List.pairwise_cons.1 h
    unfold atI
    by_cases g : y < x
    · rw [if_pos g]
      rcases List.mem_cons.1 hx with e | e
      · omega
      · exact ih h'.2 e
    · rw [if_neg g]
      rcases List.mem_cons.1 hx with e | e
      · rw [e]; rfl
      · have := h'.1 x e; omega
theorem fnd_map {α : Type} (f : α → Int) (x : Int) {l : List α} (h : l.Pairwise fun a b => f a < f b) : fndC (l.map fun n => intc (f n) x) = l.any fun n => f n == x := by
  have hp : (l.map f).Pairwise (· < ·) := List.pairwise_map.2 h
  unfold fndC
  rw [posC_map, List.getElem?_map, Bool.eq_iff_iff, decide_eq_true_iff, List.any_eq_true]
  constructor
  · intro e
    cases hg : l[atI (l.map f) x]? with
    | none => rw [hg] at e; cases e
    | some n =>
      rw [hg] at e
      have e' : intc (f n) x = 0 := by simpa using e
      exact ⟨n, List.mem_of_getElem? hg, by simpa using intc_zero.1 e'⟩
  · rintro ⟨n, hn, e⟩
    have e' : f n = x := by simpa using e
    have := atI_spec hp (List.mem_map.2 ⟨n, hn, e'⟩)
    rw [List.getElem?_map] at this
    cases hg : l[atI (l.map f) x]? with
    | none => rw [hg] at this; cases this
    | some m =>
      rw [hg] at this
      have e2 : f m = x := by simpa using this
      simp [e2, intc_self]
end Go.Proofs.YtfbijdoomkgodaaGreatDoor
