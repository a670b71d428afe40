/-
  The reference of package graph: properties in new memory. Nothing that was there turns.
-/
import Derived.Test.YtdalienglcpjbaaGreatDoorM35
import Derived.Test.YtdalienglcpjbaaGreatDoorK15
import Derived.Test.YtdalienglcpjbaaGreatDoorK16
namespace Go.Proofs.YtdalienglcpjbaaGreatDoor
open Go.RowKit

def RetPp (w : World) (l : List Pp) (e : Ending) (w' : World) : Prop := ∃ v, e = .returned v ∧ LP.Built w.heap.size l v w' ∧ Fuw w w'
theorem infoP : (Tryz.prog.info? 54).map (fun i => (i.zero, i.size, i.bytes)) = some (some (.agg #[.string ⟨#[]⟩, .int .i64 0, .int .i64 0, .int .i64 0, .string ⟨#[]⟩, .slice none 0 0]), 6, 80) := by kernel_rfl
theorem one_P (p : Pp) (m : AC) : ∀ u ∈ pC p m, u.oneCell' = true := by
  intro u hu
  unfold pC at hu
  rcases List.mem_cons.1 hu with rfl | h
  · rfl
  · exact one_V _ _ _ u h
def SPr (w0 wr : World) (b : Bool) (w : World) : Prop := match b with | true => Fuw w0 w | false => Fuw wr w
/-- What a slot holds once it is written, by the slot's class. -/
def PcU (x : Vl) (key : List UInt8) (L ov iv : Value) (b q : Nat) (a1 : Option Addr) (k1 : Nat) (s base : Nat) (l : List Pp) : Nat → World → Value → Prop
  | 1, _, v => v = L
  | 2, _, v => v = ov
  | 3, _, v => v = iv
  | 4, _, v => v = .pointer (some ⟨b, q, none⟩)
  | 5, _, v => v = .string (bs key)
  | 6, _, v => v = .pointer (some ⟨b, q + 1, none⟩)
  | 7, _, v => v = .agg #[.int .i64 x.kd, .int .i64 x.nn, .int .i64 x.dd, .string (bs x.ss), .slice a1 x.ll.length k1]
  | 8, w, v => ∃ B, v = .slice (some ⟨B, 0, none⟩) 1 1 ∧ SlV w (some ⟨B, 0, none⟩) [x] 1
  | 9, w, v => ∃ b o c a k, v = .slice (some ⟨b, o, none⟩) 1 c ∧ Kb s none w (VCa x a k b o)
  | 10, w, v => ∃ b o a k, v = .pointer (some ⟨b, o, none⟩) ∧ Kb s none w (VCa x a k b o)
  | 11, w, v => ∃ a k, v = .agg #[.int .i64 x.kd, .int .i64 x.nn, .int .i64 x.dd, .string (bs x.ss), .slice a x.ll.length k] ∧ Kb s none w (fun w2 => SlV w2 a x.ll k)
  | 12, w, v => ∃ a k, v = .agg #[.string (bs key), .int .i64 x.kd, .int .i64 x.nn, .int .i64 x.dd, .string (bs x.ss), .slice a x.ll.length k] ∧ Kb s none w (fun w2 => SlV w2 a x.ll k)
  | 13, w, v => ∃ B a k, v = .slice (some ⟨B, 0, none⟩) 1 1 ∧ Bk w B #[.string (bs key), .int .i64 x.kd, .int .i64 x.nn, .int .i64 x.dd, .string (bs x.ss), .slice a x.ll.length k] 54 ∧ Kb s none w (fun w2 => SlV w2 a x.ll k)
  | 14, w, v => ∃ qs : List (Pp × AC), l = qs.map Prod.fst ∧ w.ownsRow base 54 6 v qs.length (LP.cs qs) ∧ Kb base v.ownBlock w (LP.Ns qs)
  | _, _, _ => True
def kPcF : List Nat := [0, 0, 0, 0, 0, 0, 0, 0, 0, 0, 0, 2, 1, 3, 4, 4, 5, 1, 3, 4, 6, 7, 8, 9, 10, 11, 12, 13, 0, 0]
def kPcT : List Nat := [0, 0, 0, 14, 0, 0, 0, 0, 0, 0, 0, 0, 0, 0, 0, 0, 0, 0, 0, 0, 0, 0, 0, 0, 0, 0, 0, 0, 14, 0]
def kPc (b : Bool) (t : Nat) : Nat := (match b with | true => kPcT | false => kPcF).getD t 0
theorem pcu_on {x : Vl} {key : List UInt8} {L ov iv : Value} {b q : Nat} {a1 : Option Addr} {k1 s base : Nat} {l : List Pp} {w w' : World} (hf : Fuw w w') :
    ∀ (k : Nat) (u : Value), PcU x key L ov iv b q a1 k1 s base l k w u → PcU x key L ov iv b q a1 k1 s base l k w' u := by
  intro k u h
  match k, h with
  | 0, h => exact h
  | 1, h => exact h
  | 2, h => exact h
  | 3, h => exact h
  | 4, h => exact h
  | 5, h => exact h
  | 6, h => exact h
  | 7, h => exact h
  | 8, ⟨B, h1, h2⟩ => exact ⟨B, h1, h2.onw hf⟩
  | 9, ⟨b, o, c, a, k, h1, h2⟩ => exact ⟨b, o, c, a, k, h1, h2.later hf⟩
  | 10, ⟨b, o, a, k, h1, h2⟩ => exact ⟨b, o, a, k, h1, h2.later hf⟩
  | 11, ⟨a, k, h1, h2⟩ => exact ⟨a, k, h1, h2.later hf⟩
  | 12, ⟨a, k, h1, h2⟩ => exact ⟨a, k, h1, h2.later hf⟩
  | 13, ⟨B, a, k, h1, h2, h3⟩ => exact ⟨B, a, k, h1, h2.on hf, h3.later hf⟩
  | 14, ⟨qs, h1, h2, h3⟩ => exact ⟨qs, h1, own_on h2 hf, h3.later hf⟩
  | _ + 15, h => exact h
theorem frameD30 (x : Nat → Value) : frameD 30 x = ⟨#[x 0, x 1, x 2, x 3, x 4, x 5, x 6, x 7, x 8, x 9, x 10, x 11, x 12, x 13, x 14, x 15, x 16, x 17, x 18, x 19, x 20, x 21, x 22, x 23, x 24, x 25, x 26, x 27, x 28, x 29], []⟩ := rfl
set_option maxHeartbeats 6400000 in
set_option maxRecDepth 100000 in
theorem rprops_any (l : List Pp) (ao : Option Addr) (cap : Nat) (w : World) (hs : SlP w ao l cap) (hn : l.length ≤ 1000000) (hsh : ∀ p ∈ l, shV p.v = true) :
    Calls Tryz.prog 44 #[.slice ao l.length cap] w (RetPp w l) := by
  have h2 := hs.le
  have h3 := hs.max
  unfold maxLen at h3
  have HS := Lib.hid hs
  have HI := Lib.hid (hs.ins (I := LP.I) (fun _ _ _ h => PC_in h))
  have HSH := Lib.hid hsh
  obtain ⟨i0, hi, hz0, hz1, hz2⟩ := info_parts infoP
  clear hs hsh
  go_enter Tryz.func44, Tryz.ntmps44
  go_wp2
  go_loopw [3, 4] (fun ov iv wr => ∃ (i : Nat) (ps : List (Pp × AC)), iv = .int .i64 i ∧ i ≤ l.length ∧ wr.ownsRow w.heap.size 54 6 ov ps.length (LP.cs ps) ∧ Hid (l.take i = ps.map Prod.fst) ∧ Hid (Kb w.heap.size ov.ownBlock wr (LP.Ns ps)) ∧ Hid (Fuw w wr)) (fun _ iv _ => l.length - (RowKit.intOf iv).toNat)
  case atStart => exact ⟨0, [], rfl, Nat.zero_le _, World.ownsRow_nil _ _ _ _, rfl, Kb.triv LP.Ns_nil, Fuw.refl _⟩
  case round =>
    obtain ⟨i, ps, rfl, hii, hown, HT, HK, hf⟩ := hrel
    obtain ⟨ov, rfl⟩ : ∃ z, z = u3 := ⟨u3, rfl⟩
    have hps : ps.length = i := by
      have := congrArg List.length HT.out
      rw [List.length_take, List.length_map] at this
      omega
    by_cases hlt : i < l.length
    · have hlt' : (i : Int) < (l.length : Int) := by omega
      obtain ⟨b, o, rfl, -, k0, hv⟩ := (slP_on hf.out HS.out).get hlt
      obtain ⟨hy, c0, c1, c2, c3, a1, k1, c4, hs1⟩ := VC_of hv
      have HSX := Lib.hid (HSH.out _ (List.getElem_mem hlt))
      have HTT := Lib.hid (fun m => take_fsts HT.out hlt m)
      have HM := Lib.hid (show (kPc true 28 = 14) from rfl)
      obtain ⟨p, hp⟩ : ∃ p, p = l[i] := ⟨_, rfl⟩
      rw [← hp] at k0 c0 c1 c2 c3 c4 hs1 hy HSX HTT
      have hpl : ps.length ≤ 1000000 := by omega
      have HY := Lib.hid hy
      have H1 := Lib.hid hs1
      have K0 := Lib.hid k0
      have C0 := Lib.hid c0
      have C1 := Lib.hid c1
      have C2 := Lib.hid c2
      have C3 := Lib.hid c3
      have C4 := Lib.hid c4
      have HO := Lib.hid hown
      clear hp hv hs1 hy HT hps k0 c0 c1 c2 c3 c4 HM hown
      obtain ⟨L1, hL1⟩ : ∃ L1, L1 = l.take (i + 1) := ⟨_, rfl⟩
      rw [← hL1] at HTT
      have HL1 := Lib.hid hL1
      clear hL1
      go_upto_region 5 with fail
      refine region_midB (N := 30) (S := fun σ => SPr w wr (σ 17)) (U := fun σ t => PcU p.v p.k (.slice (some ⟨b, o, none⟩) l.length cap) ov (.int .i64 i) b (o + i * 6) a1 k1 wr.heap.size w.heap.size L1 (kPc (σ 17) t)) (V := fun t v => t = 3 → v = ov) (by kernel_rfl) (by kernel_rfl) (by kernel_rfl) ?base (fun H1 => upto_succ (n := 18) (upto_succ (n := 17) (upto_succ (n := 16) (upto_succ (n := 15) (upto_succ (n := 14) (upto_succ (n := 13) (upto_succ (n := 12) (upto_succ (n := 11) (upto_succ (n := 10) (upto_succ (n := 9) (upto_succ (n := 8) (upto_succ (n := 7) (upto_succ (n := 6) (upto_succ (n := 5) (upto_succ (n := 4) (upto_succ (n := 3) (upto_succ (n := 2) (upto_succ (n := 1) (upto_succ (n := 0) (upto_nil) ?s0) ?s1) ?s2) ?s3) ?s4) ?s5) ?s6) ?s7) ?s8) ?s9) ?s10) ?s11) ?s12) ?s13) ?s14) ?s15) ?s16) ?s17) ?s18) ?fin
      case s0 =>
        refine stepB_of [17] [] [] [3] H1 rfl rfl (by kernel_rfl) (by kernel_rfl) (by kernel_rfl) (by kernel_rfl) ?_
        intro σ hp hq x w5 hS hU hV hA Lv hLv K hK
        have m17 : σ 17 = false := hp 17 (by simp)
        simp only [m17, upB_ne (show (0 : Nat) ≠ 17 by decide)] at hS hU hK
        clear hp hq m17
        have u3 : x 3 = ov := hV 3 (by simp) rfl
        clear hU hV hA H1 hLv
        rw [frameD30] at hK ⊢
        simp only [u3] at hK ⊢
        refine wpOp_step rfl (fun K' hK' => ?_)
        go_simp
        exact hK' _ _ (hK _ _ hS (fun _ _ _ h => h) (fun e he => by cases he; exact rfl))
      case s1 =>
        refine stepB_of [17] [] [] [] H1 rfl rfl (by kernel_rfl) (by kernel_rfl) (by kernel_rfl) (by kernel_rfl) ?_
        intro σ hp hq x w5 hS hU hV hA Lv hLv K hK
        have m17 : σ 17 = false := hp 17 (by simp)
        simp only [m17, upB_ne (show (1 : Nat) ≠ 17 by decide)] at hS hU hK
        clear hp hq m17
        have u0 : x 0 = .slice (some ⟨b, o, none⟩) l.length cap := hA 0 (by kernel_rfl)
        clear hU hV hA H1 hLv
        rw [frameD30] at hK ⊢
        simp only [u0] at hK ⊢
        refine wpOp_step rfl (fun K' hK' => ?_)
        go_simp
        exact hK' _ _ (hK _ _ hS (fun _ _ _ h => h) (fun e he => by cases he; exact rfl))
      case s2 =>
        refine stepB_of [17] [] [] [] H1 rfl rfl (by kernel_rfl) (by kernel_rfl) (by kernel_rfl) (by kernel_rfl) ?_
        intro σ hp hq x w5 hS hU hV hA Lv hLv K hK
        have m17 : σ 17 = false := hp 17 (by simp)
        simp only [m17, upB_ne (show (2 : Nat) ≠ 17 by decide)] at hS hU hK
        clear hp hq m17
        have u4 : x 4 = .int .i64 i := hA 4 (by kernel_rfl)
        clear hU hV hA H1 hLv
        rw [frameD30] at hK ⊢
        simp only [u4] at hK ⊢
        refine wpOp_step rfl (fun K' hK' => ?_)
        go_simp
        exact hK' _ _ (hK _ _ hS (fun _ _ _ h => h) (fun e he => by cases he; exact rfl))
      case s3 =>
        refine stepB_of [17] [] [12, 13] [] H1 rfl rfl (by kernel_rfl) (by kernel_rfl) (by kernel_rfl) (by kernel_rfl) ?_
        intro σ hp hq x w5 hS hU hV hA Lv hLv K hK
        have m17 : σ 17 = false := hp 17 (by simp)
        simp only [m17, upB_ne (show (3 : Nat) ≠ 17 by decide)] at hS hU hK
        clear hp hq m17
        have u12 : x 12 = .slice (some ⟨b, o, none⟩) l.length cap := hU 12 (by simp)
        have u13 : x 13 = .int .i64 i := hU 13 (by simp)
        clear hU hV hA H1 hLv
        rw [frameD30] at hK ⊢
        simp only [u12, u13] at hK ⊢
        refine wpOp_step rfl (fun K' hK' => ?_)
        go_simp
        exact hK' _ _ (hK _ _ hS (fun _ _ _ h => h) (fun e he => by cases he; exact rfl))
      case s4 =>
        refine stepB_of [17] [] [14] [] H1 rfl rfl (by kernel_rfl) (by kernel_rfl) (by kernel_rfl) (by kernel_rfl) ?_
        intro σ hp hq x w5 hS hU hV hA Lv hLv K hK
        have m17 : σ 17 = false := hp 17 (by simp)
        simp only [m17, upB_ne (show (4 : Nat) ≠ 17 by decide)] at hS hU hK
        clear hp hq m17
        have u14 : x 14 = .pointer (some ⟨b, o + i * 6, none⟩) := hU 14 (by simp)
        clear hU hV hA H1 hLv
        rw [frameD30] at hK ⊢
        simp only [u14] at hK ⊢
        refine wpOp_step rfl (fun K' hK' => ?_)
        go_simp
        exact hK' _ _ (hK _ _ hS (fun _ _ _ h => h) (fun e he => by cases he; exact rfl))
      case s5 =>
        refine stepB_of [17] [] [15] [] H1 rfl rfl (by kernel_rfl) (by kernel_rfl) (by kernel_rfl) (by kernel_rfl) ?_
        intro σ hp hq x w5 hS hU hV hA Lv hLv K hK
        have m17 : σ 17 = false := hp 17 (by simp)
        simp only [m17, upB_ne (show (5 : Nat) ≠ 17 by decide)] at hS hU hK
        clear hp hq m17
        have u15 : x 15 = .pointer (some ⟨b, o + i * 6, none⟩) := hU 15 (by simp)
        clear hU hV hA H1 hLv
        rw [frameD30] at hK ⊢
        simp only [u15] at hK ⊢
        refine wpOp_step rfl (fun K' hK' => ?_)
        have hS2 : Fuw wr w5 := hS
        have k0 := cellOnw hS2 K0.out
        go_simp
        exact hK' _ _ (hK _ _ hS (fun _ _ _ h => h) (fun e he => by cases he; exact rfl))
      case s6 =>
        refine stepB_of [17] [] [] [] H1 rfl rfl (by kernel_rfl) (by kernel_rfl) (by kernel_rfl) (by kernel_rfl) ?_
        intro σ hp hq x w5 hS hU hV hA Lv hLv K hK
        have m17 : σ 17 = false := hp 17 (by simp)
        simp only [m17, upB_ne (show (6 : Nat) ≠ 17 by decide)] at hS hU hK
        clear hp hq m17
        have u0 : x 0 = .slice (some ⟨b, o, none⟩) l.length cap := hA 0 (by kernel_rfl)
        clear hU hV hA H1 hLv
        rw [frameD30] at hK ⊢
        simp only [u0] at hK ⊢
        refine wpOp_step rfl (fun K' hK' => ?_)
        go_simp
        exact hK' _ _ (hK _ _ hS (fun _ _ _ h => h) (fun e he => by cases he; exact rfl))
      case s7 =>
        refine stepB_of [17] [] [] [] H1 rfl rfl (by kernel_rfl) (by kernel_rfl) (by kernel_rfl) (by kernel_rfl) ?_
        intro σ hp hq x w5 hS hU hV hA Lv hLv K hK
        have m17 : σ 17 = false := hp 17 (by simp)
        simp only [m17, upB_ne (show (7 : Nat) ≠ 17 by decide)] at hS hU hK
        clear hp hq m17
        have u4 : x 4 = .int .i64 i := hA 4 (by kernel_rfl)
        clear hU hV hA H1 hLv
        rw [frameD30] at hK ⊢
        simp only [u4] at hK ⊢
        refine wpOp_step rfl (fun K' hK' => ?_)
        go_simp
        exact hK' _ _ (hK _ _ hS (fun _ _ _ h => h) (fun e he => by cases he; exact rfl))
      case s8 =>
        refine stepB_of [17] [] [17, 18] [] H1 rfl rfl (by kernel_rfl) (by kernel_rfl) (by kernel_rfl) (by kernel_rfl) ?_
        intro σ hp hq x w5 hS hU hV hA Lv hLv K hK
        have m17 : σ 17 = false := hp 17 (by simp)
        simp only [m17, upB_ne (show (8 : Nat) ≠ 17 by decide)] at hS hU hK
        clear hp hq m17
        have u17 : x 17 = .slice (some ⟨b, o, none⟩) l.length cap := hU 17 (by simp)
        have u18 : x 18 = .int .i64 i := hU 18 (by simp)
        clear hU hV hA H1 hLv
        rw [frameD30] at hK ⊢
        simp only [u17, u18] at hK ⊢
        refine wpOp_step rfl (fun K' hK' => ?_)
        go_simp
        exact hK' _ _ (hK _ _ hS (fun _ _ _ h => h) (fun e he => by cases he; exact rfl))
      case s9 =>
        refine stepB_of [17] [] [19] [] H1 rfl rfl (by kernel_rfl) (by kernel_rfl) (by kernel_rfl) (by kernel_rfl) ?_
        intro σ hp hq x w5 hS hU hV hA Lv hLv K hK
        have m17 : σ 17 = false := hp 17 (by simp)
        simp only [m17, upB_ne (show (9 : Nat) ≠ 17 by decide)] at hS hU hK
        clear hp hq m17
        have u19 : x 19 = .pointer (some ⟨b, o + i * 6, none⟩) := hU 19 (by simp)
        clear hU hV hA H1 hLv
        rw [frameD30] at hK ⊢
        simp only [u19] at hK ⊢
        refine wpOp_step rfl (fun K' hK' => ?_)
        go_simp
        exact hK' _ _ (hK _ _ hS (fun _ _ _ h => h) (fun e he => by cases he; exact rfl))
      case s10 =>
        refine stepB_of [17] [] [20] [] H1 rfl rfl (by kernel_rfl) (by kernel_rfl) (by kernel_rfl) (by kernel_rfl) ?_
        intro σ hp hq x w5 hS hU hV hA Lv hLv K hK
        have m17 : σ 17 = false := hp 17 (by simp)
        simp only [m17, upB_ne (show (10 : Nat) ≠ 17 by decide)] at hS hU hK
        clear hp hq m17
        have u20 : x 20 = .pointer (some ⟨b, o + i * 6 + 1, none⟩) := hU 20 (by simp)
        clear hU hV hA H1 hLv
        rw [frameD30] at hK ⊢
        simp only [u20] at hK ⊢
        refine wpOp_step rfl (fun K' hK' => ?_)
        have hS2 : Fuw wr w5 := hS
        have c0 := cellOnw hS2 C0.out
        have c1 := cellOnw hS2 C1.out
        have c2 := cellOnw hS2 C2.out
        have c3 := cellOnw hS2 C3.out
        have c4 := cellOnw hS2 C4.out
        go_simp
        exact hK' _ _ (hK _ _ hS (fun _ _ _ h => h) (fun e he => by cases he; exact rfl))
      case s11 =>
        refine stepB_of [17] [] [21] [] H1 rfl rfl (by kernel_rfl) (by kernel_rfl) (by kernel_rfl) (by kernel_rfl) ?_
        intro σ hp hq x w5 hS hU hV hA Lv hLv K hK
        have m17 : σ 17 = false := hp 17 (by simp)
        simp only [m17, upB_ne (show (11 : Nat) ≠ 17 by decide)] at hS hU hK
        clear hp hq m17
        have u21 : x 21 = .agg #[.int .i64 p.v.kd, .int .i64 p.v.nn, .int .i64 p.v.dd, .string (bs p.v.ss), .slice a1 p.v.ll.length k1] := hU 21 (by simp)
        clear hU hV hA H1 hLv
        rw [frameD30] at hK ⊢
        simp only [u21] at hK ⊢
        refine wpOp_step rfl (fun K' hK' => ?_)
        have hS2 : Fuw wr w5 := hS
        go_simp
        exact hK' _ _ (hK _ _ (show Fuw wr _ from (show Fuw wr w5 from hS).alloc _) (fun _ _ _ h => pcu_on (fuwA _ _) _ _ h) (fun e he => by cases he; exact ⟨_, rfl, slv_one (Bk.new _ _ _) HY.out (H1.out.onw (hS2.alloc _))⟩))
      case s12 =>
        refine stepB_of [17] [] [22] [] H1 rfl rfl (by kernel_rfl) (by kernel_rfl) (by kernel_rfl) (by kernel_rfl) ?_
        intro σ hp hq x w5 hS hU hV hA Lv hLv K hK
        have m17 : σ 17 = false := hp 17 (by simp)
        simp only [m17, upB_ne (show (12 : Nat) ≠ 17 by decide)] at hS hU hK
        clear hp hq m17
        obtain ⟨B, u22, hB⟩ : ∃ B, x 22 = .slice (some ⟨B, 0, none⟩) 1 1 ∧ SlV w5 (some ⟨B, 0, none⟩) [p.v] 1 := hU 22 (by simp)
        clear hU hV hA H1 hLv
        rw [frameD30] at hK ⊢
        simp only [u22] at hK ⊢
        refine wpOp_step rfl (fun K' hK' => ?_)
        have hS2 : Fuw wr w5 := hS
        go_simp
        go_wp2_with (go_at_call 80; refine (copy_any [p.v] (by simp) (by unfold shL; rw [HSX.out]; rfl) _ _ _ hB).mono ?_; rintro e5 w6 ⟨v5, rfl, hb5, f5⟩)
        obtain ⟨b5, o5, c5, a5, k5, rfl, hk5⟩ := built_one hb5
        exact hK _ _ (show Fuw wr _ from hS2.trans f5) (fun _ _ _ h => pcu_on f5 _ _ h) (fun e he => by cases he; exact ⟨_, _, _, _, _, rfl, hk5.low hS2.size (fun _ q => by cases q)⟩)
      case s13 =>
        refine stepB_of [17] [] [23] [] H1 rfl rfl (by kernel_rfl) (by kernel_rfl) (by kernel_rfl) (by kernel_rfl) ?_
        intro σ hp hq x w5 hS hU hV hA Lv hLv K hK
        have m17 : σ 17 = false := hp 17 (by simp)
        simp only [m17, upB_ne (show (13 : Nat) ≠ 17 by decide)] at hS hU hK
        clear hp hq m17
        obtain ⟨b2, o2, c5, a2, k2, u23, hB⟩ : ∃ b o c a k, x 23 = .slice (some ⟨b, o, none⟩) 1 c ∧ Kb wr.heap.size none w5 (VCa p.v a k b o) := hU 23 (by simp)
        clear hU hV hA H1 hLv
        rw [frameD30] at hK ⊢
        simp only [u23] at hK ⊢
        refine wpOp_step rfl (fun K' hK' => ?_)
        go_simp
        exact hK' _ _ (hK _ _ hS (fun _ _ _ h => h) (fun e he => by cases he; exact ⟨_, _, _, _, rfl, hB⟩))
      case s14 =>
        refine stepB_of [17] [] [24] [] H1 rfl rfl (by kernel_rfl) (by kernel_rfl) (by kernel_rfl) (by kernel_rfl) ?_
        intro σ hp hq x w5 hS hU hV hA Lv hLv K hK
        have m17 : σ 17 = false := hp 17 (by simp)
        simp only [m17, upB_ne (show (14 : Nat) ≠ 17 by decide)] at hS hU hK
        clear hp hq m17
        obtain ⟨b2, o2, a2, k2, u24, hB⟩ : ∃ b o a k, x 24 = .pointer (some ⟨b, o, none⟩) ∧ Kb wr.heap.size none w5 (VCa p.v a k b o) := hU 24 (by simp)
        clear hU hV hA H1 hLv
        rw [frameD30] at hK ⊢
        simp only [u24] at hK ⊢
        refine wpOp_step rfl (fun K' hK' => ?_)
        obtain ⟨d0, d1, d2, d3, d4, hn5⟩ := hB.now
        go_simp
        exact hK' _ _ (hK _ _ hS (fun _ _ _ h => h) (fun e he => by cases he; exact ⟨_, _, rfl, hB.imp (fun _ h => h.2.2.2.2.2)⟩))
      case s15 =>
        refine stepB_of [17] [] [16, 25] [] H1 rfl rfl (by kernel_rfl) (by kernel_rfl) (by kernel_rfl) (by kernel_rfl) ?_
        intro σ hp hq x w5 hS hU hV hA Lv hLv K hK
        have m17 : σ 17 = false := hp 17 (by simp)
        simp only [m17, upB_ne (show (15 : Nat) ≠ 17 by decide)] at hS hU hK
        clear hp hq m17
        have u16 : x 16 = .string (bs p.k) := hU 16 (by simp)
        obtain ⟨a2, k2, u25, hB⟩ : ∃ a k, x 25 = .agg #[.int .i64 p.v.kd, .int .i64 p.v.nn, .int .i64 p.v.dd, .string (bs p.v.ss), .slice a p.v.ll.length k] ∧ Kb wr.heap.size none w5 (fun w2 => SlV w2 a p.v.ll k) := hU 25 (by simp)
        clear hU hV hA H1 hLv
        rw [frameD30] at hK ⊢
        simp only [u16, u25] at hK ⊢
        refine wpOp_step rfl (fun K' hK' => ?_)
        go_simp
        exact hK' _ _ (hK _ _ hS (fun _ _ _ h => h) (fun e he => by cases he; exact ⟨_, _, rfl, hB⟩))
      case s16 =>
        refine stepB_of [17] [] [26] [] H1 rfl rfl (by kernel_rfl) (by kernel_rfl) (by kernel_rfl) (by kernel_rfl) ?_
        intro σ hp hq x w5 hS hU hV hA Lv hLv K hK
        have m17 : σ 17 = false := hp 17 (by simp)
        simp only [m17, upB_ne (show (16 : Nat) ≠ 17 by decide)] at hS hU hK
        clear hp hq m17
        obtain ⟨a2, k2, u26, hB⟩ : ∃ a k, x 26 = .agg #[.string (bs p.k), .int .i64 p.v.kd, .int .i64 p.v.nn, .int .i64 p.v.dd, .string (bs p.v.ss), .slice a p.v.ll.length k] ∧ Kb wr.heap.size none w5 (fun w2 => SlV w2 a p.v.ll k) := hU 26 (by simp)
        clear hU hV hA H1 hLv
        rw [frameD30] at hK ⊢
        simp only [u26] at hK ⊢
        refine wpOp_step rfl (fun K' hK' => ?_)
        have hS2 : Fuw wr w5 := hS
        go_simp
        exact hK' _ _ (hK _ _ (show Fuw wr _ from (show Fuw wr w5 from hS).alloc _) (fun _ _ _ h => pcu_on (fuwA _ _) _ _ h) (fun e he => by cases he; exact ⟨_, _, _, rfl, Bk.new _ _ _, hB.later (fuwA _ _)⟩))
      case s17 =>
        refine stepB_of [17] [] [11, 27] [] H1 rfl rfl (by kernel_rfl) (by kernel_rfl) (by kernel_rfl) (by kernel_rfl) ?_
        intro σ hp hq x w5 hS hU hV hA Lv hLv K hK
        have m17 : σ 17 = false := hp 17 (by simp)
        simp only [m17, upB_eq] at hS hU hK
        clear hp hq m17
        have u11 : x 11 = ov := hU 11 (by simp)
        obtain ⟨B, a2, k2, u27, hB, hB2⟩ : ∃ B a k, x 27 = .slice (some ⟨B, 0, none⟩) 1 1 ∧ Bk w5 B #[.string (bs p.k), .int .i64 p.v.kd, .int .i64 p.v.nn, .int .i64 p.v.dd, .string (bs p.v.ss), .slice a p.v.ll.length k] 54 ∧ Kb wr.heap.size none w5 (fun w2 => SlV w2 a p.v.ll k) := hU 27 (by simp)
        clear hU hV hA H1
        rw [frameD30] at hK ⊢
        simp only [u11, u27] at hK ⊢
        have hS2 : Fuw wr w5 := hS
        have hst := hf.out.size
        have hst2 := hS2.size
        refine wpOp_append w5 rfl rfl (.tmp 11) (.tmp 27) 55 rfl w.heap.size 54 i0 _ 6 80 Tryz.underlying55 hi hz0 hz1 hz2 rfl (by decide) _ ps.length (LP.cs ps) rfl (own_on HO.out hS2) ⟨B, 0, none⟩ 1 1 (pC p (a2, k2)) rfl rfl (World.news_of_block hB) (one_P _ _) (by unfold maxLen; omega) (by omega) (by omega) ?_
        intro v3 w3 hown3 hgrow hat
        refine hK v3 w3 (show Fuw w w3 from Below.grown (hf.out.trans hS2) hgrow (hf.out.trans hS2).size (fun k hk => (HO.out.lt k hk).1)) (fun t u hl _ => ?_) (fun e he => ?_)
        · have ht : kPc true t = 0 := dead_of (ks := kPcT) (by kernel_rfl) (hLv t hl)
          show PcU _ _ _ _ _ _ _ _ _ _ _ _ (kPc true t) _ _
          rw [ht]; trivial
        · cases he
          refine ⟨ps ++ [(p, a2, k2)], HTT.out (a2, k2), ?_, ?_⟩
          · rw [Lay.cs_app, Lay.cs_one, List.length_append]; exact hown3
          · exact (((HK.out.later hS2).and (hB2.low (o := _) hst (fun k hk => .inl (HO.out.lt k hk).2))).imp (fun _ h => Lay.Ns_snoc (p := (p, a2, k2)) h.1 h.2)).grown hgrow hat
      case s18 =>
        refine stepB_of [] [17] [28] [] H1 rfl rfl (by kernel_rfl) (by kernel_rfl) (by kernel_rfl) (by kernel_rfl) ?_
        intro σ hp hq x w5 hS hU hV hA Lv hLv K hK
        have m17 : σ 17 = true := hq 17 (by simp)
        simp only [m17, upB_ne (show (18 : Nat) ≠ 17 by decide)] at hS hU hK
        clear hp hq m17
        have u28 := hU 28 (by simp)
        clear hU hV hA H1 hLv
        rw [frameD30] at hK ⊢
        refine wpOp_step rfl (fun K' hK' => ?_)
        go_simp
        exact hK' _ _ (hK _ _ hS (fun _ _ _ h => h) (fun e he => by cases he; exact u28))
      case base =>
        refine midB_start rfl rfl (show Fuw wr wr.drew from Fuw.drew (Fuw.refl _)) (fun t ht hh => ?_) (fun t e => by subst e; rfl)
        rcases start_of (ks := kPcF) (L := []) (by kernel_rfl) t ht hh with e | e
        · show PcU _ _ _ _ _ _ _ _ _ _ _ _ (kPcF.getD t 0) _ _
          rw [e]; trivial
        · cases e
      case fin =>
        intro x w5 hS hU hA
        rename_i hk
        refine hk _ _ ?_
        have hS2 : Fuw w w5 := hS
        obtain ⟨qs, hq, hown4, hK4⟩ := hU 3 (by simp)
        have HQ := Lib.hid (HL1.out.symm.trans hq)
        have HK4 := Lib.hid hK4
        have HF := Lib.hid hS2
        have u0 : x 0 = .slice (some ⟨b, o, none⟩) l.length cap := hA 0 (by kernel_rfl)
        have u4 : x 4 = .int .i64 i := hA 4 (by kernel_rfl)
        have u1 : x 1 = undef := hA 1 (by kernel_rfl)
        have u2 : x 2 = .slice none 0 0 := hA 2 (by kernel_rfl)
        have u29 : x 29 = undef := hA 29 (by kernel_rfl)
        clear hU hA hq hK4 hS2 hS
        rw [frameD30]
        simp only [u0, u1, u2, u4, u29]
        clear u0 u1 u2 u4 u29
        go_wp2
        go_roundw
        case rel => exact ⟨i + 1, qs, by go_num, by omega, hown4, HQ, HK4, HF⟩
        case measure => simp [RowKit.intOf]; omega
    · have HB := Lib.hid (Lay.built_own hown (fun p hp => HI.out _ (List.mem_of_mem_take (i := i) (HT.out ▸ List.mem_map_of_mem hp))) HK.out)
      have HE := Lib.hid (show ps.map Prod.fst = l by rw [← HT.out, List.take_of_length_le (by omega)])
      rw [HE.out] at HB
      clear hown hps
      go_wp2
      go_ret
      exact ⟨_, rfl, HB.out, hf.out⟩
end Go.Proofs.YtdalienglcpjbaaGreatDoor
