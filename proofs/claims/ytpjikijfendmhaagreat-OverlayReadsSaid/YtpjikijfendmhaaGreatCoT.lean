
/-
  Package column: whether no int of a list occurs twice, by slices.Sorted of slices.Values. Nothing that was there turns.
-/
import Derived.Test.YtpjikijfendmhaaGreatCoS
import Derived.Test.YtpjikijfendmhaaGreatCoK
import Derived.Test.YtpjikijfendmhaaGreatCoB2
import Derived.Sort.OwnSortedInts
namespace Go.Proofs.YtpjikijfendmhaaGreat
open Go.RowKit Go.Shelf Go.Sort

theorem block_lt {w : World} {g : Nat} {o : Obj} (h : w.heap[g]? = some o) : g < w.heap.size := (Array.getElem?_eq_some_iff.1 h).1
theorem srtI_len (l : List Int) : (srtI l).length = l.length := (srtI_perm l).length_eq
/-- slices.Sort of a row of the call's own. -/
theorem sort_own {w0 w : World} {base : Nat} {v : Value} {zs : List Int} (h : w.ownsRow base 3 1 v zs.length (cs zs)) (hb0 : w0.heap.size ≤ base) (F : Fuw w0 w) (hl : zs.length ≤ 1000000) :
    Calls Tryz.prog 81 #[v] w fun e w' => e = .returned (.tuple #[]) ∧ w'.ownsRow base 3 1 v (srtI zs).length (cs (srtI zs)) ∧ Fuw w0 w' := by
  have hlen := h.1
  rcases h.2 with ⟨rfl, h0⟩ | ⟨g, cap, cur, rfl, hb, hh, h1, h2, h3, h4⟩
  · have e := List.length_eq_zero_iff.1 h0
    subst e
    rw [show srtI [] = [] from List.eq_nil_of_length_eq_zero (srtI_len [])]
    refine (AnyM.slices_Sort_int_none Tryz.lays81 none 0 w).mono ?_
    rintro e w' ⟨rfl, rfl⟩
    exact ⟨rfl, World.ownsRow_nil _ _ _ _, F⟩
  · have hH := holds_of_blockI (ss := zs) hh (by rw [Nat.mul_one] at h4; exact h4)
    refine (AnyM.slices_Sort_int Tryz.lays81 g 0 cap zs w hH (block_lt hh) (by omega)).mono ?_
    rintro e w' ⟨rfl, n, os, rfl⟩
    refine ⟨rfl, ?_, Below.grown F (grownBy_sortedI _) F.size (fun k hk => by cases hk; exact Nat.le_trans hb0 hb)⟩
    have k := ownsRow_sortedI (n := n) (os := os) (srtI_len zs) hb hh h1 h2 h3
    rw [srtI_len]
    exact k
theorem aseq_any (Bs : Nat) (sv : Value) (zs : List Int) (hl : zs.length ≤ 1000000) (w : World) (hBs : Bs < w.heap.size) (hc : w.cell? ⟨Bs, 0, none⟩ = some sv) (hI : IntsB w.heap.size w sv zs) :
    Calls Tryz.prog 110 #[.slice none 0 0, .func (.func 96) #[] #[.pointer (some ⟨Bs, 0, none⟩)]] w fun e w' => ∃ v, e = .returned v ∧ w'.ownsRow w.heap.size 3 1 v zs.length (cs zs) ∧ Below w.heap.size w w' :=
  (callsIn_wide (n := 3)).1 (aseq_in Fence.wide 3 trivial trivial rfl (by omega) Bs sv zs hl w hBs hc hI)
theorem coll_any (Bs : Nat) (sv : Value) (zs : List Int) (hl : zs.length ≤ 1000000) (w : World) (hBs : Bs < w.heap.size) (hc : w.cell? ⟨Bs, 0, none⟩ = some sv) (hI : IntsB w.heap.size w sv zs) :
    Calls Tryz.prog 95 #[.func (.func 96) #[] #[.pointer (some ⟨Bs, 0, none⟩)]] w fun e w' => ∃ v, e = .returned v ∧ w'.ownsRow w.heap.size 3 1 v zs.length (cs zs) ∧ Below w.heap.size w w' := by
  have HA := Lib.hid (aseq_any Bs sv zs hl w hBs hc hI)
  clear hc hI
  go_enter Tryz.func95, Tryz.ntmps95
  go_wp2_with fail
  go_at_call 110; refine HA.out.mono ?_; rintro e1 w1 ⟨v, rfl, ho, f1⟩
  go_wp2
  go_ret
  exact ⟨v, rfl, ho, f1⟩
/-- slices.Sorted(slices.Values(l)): a row of the call's own, in order. -/
def RetSI (w : World) (l : List Int) (e : Ending) (w' : World) : Prop := ∃ v, e = .returned v ∧ w'.ownsRow w.heap.size 3 1 v (srtI l).length (cs (srtI l)) ∧ Fuw w w'
theorem sortd_any (Bs : Nat) (sv : Value) (zs : List Int) (hl : zs.length ≤ 1000000) (w : World) (hBs : Bs < w.heap.size) (hc : w.cell? ⟨Bs, 0, none⟩ = some sv) (hI : IntsB w.heap.size w sv zs) :
    Calls Tryz.prog 79 #[.func (.func 96) #[] #[.pointer (some ⟨Bs, 0, none⟩)]] w (RetSI w zs) := by
  have HA := Lib.hid (coll_any Bs sv zs hl w hBs hc hI)
  have HC := Lib.hid (fun w1 v (h : w1.ownsRow w.heap.size 3 1 v zs.length (cs zs)) (F : Fuw w w1) => sort_own h (Nat.le_refl _) F hl)
  clear hc hI
  go_enter Tryz.func79, Tryz.ntmps79
  go_wp2_with fail
  go_at_call 95; refine HA.out.mono ?_; rintro e1 w1 ⟨v, rfl, ho, f1⟩
  go_wp2_with fail
  go_at_call 81; refine (HC.out _ _ ho f1).mono ?_; rintro e w2 ⟨rfl, o2, f2⟩
  go_wp2
  go_ret
  exact ⟨v, rfl, o2, f2⟩
theorem srt_i64 {l : List Int} (h : ∀ x ∈ l, I64 x) : ∀ x ∈ srtI l, I64 x := fun x hx => h x ((srtI_perm l).mem_iff.1 hx)
set_option maxHeartbeats 1600000 in
set_option maxRecDepth 100000 in
theorem aredst_any (l : List Int) (ao : Option Addr) (cap : Nat) (w : World) (hs : SlI w ao l cap) (hl : l.length ≤ 1000000) :
    Calls Tryz.prog 61 #[.slice ao l.length cap] w (FwB w (dstI l)) := by
  have HI := Lib.hid (slI_i64 hs)
  have HB := Lib.hid (ints_of hs)
  have HS := Lib.hid (fun w' (hf : Below w.heap.size w w') (hc : w'.cell? ⟨w.heap.size, 0, none⟩ = some (.slice ao l.length cap)) (hlt : w.heap.size < w'.heap.size) =>
    sortd_any w.heap.size (.slice ao l.length cap) l hl w' hlt hc (IntsB.mono (HB.out.below hf) (Nat.le_of_lt hlt)))
  have HD := Lib.hid (dstI_srt l)
  clear hs
  go_enter Tryz.func61, Tryz.ntmps61
  go_wp2_with fail
  go_at_call 80; refine (values_any _ _ _ _).mono ?_; rintro e1 w1 ⟨rfl, hw1⟩
  have F1 := Lib.hid (show Fuw w w1 by rw [hw1]; exact fuwA _ _)
  have C1 := Lib.hid (show w1.cell? ⟨w.heap.size, 0, none⟩ = some (.slice ao l.length cap) by rw [hw1]; exact (Bk.new _ _ _).c 0)
  have L1 := Lib.hid (show w.heap.size < w1.heap.size by rw [hw1]; simp)
  clear hw1
  go_wp2_with fail
  go_at_call 79; refine (HS.out w1 F1.out C1.out L1.out).mono ?_; rintro e2 w2 ⟨v, rfl, ho, f2⟩
  obtain ⟨a, c, rfl, -, hS⟩ := slI_own ho (srt_i64 HI.out)
  have HS2 := Lib.hid hS
  have F2 := Lib.hid (F1.out.trans f2)
  clear ho f2 hS
  go_wp2_with fail
  go_at_call 69; refine (areinc_any (srtI l) a c _ HS2.out).mono ?_; rintro e3 w3 ⟨rfl, f3⟩
  go_wp2
  go_ret
  exact ⟨ret_bool HD.out, F2.out.trans f3⟩
end Go.Proofs.YtpjikijfendmhaaGreat
