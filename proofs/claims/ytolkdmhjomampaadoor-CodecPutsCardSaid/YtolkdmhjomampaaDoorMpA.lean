/-
  Package codec: appendValue appends the bytes of a valid value, and PutValue gives them; for values whose bytes number at most 100,000,000,000,000. Nothing that was there turns.
-/
import Derived.Test.YtolkdmhjomampaaDoorMch
import Derived.Test.YtolkdmhjomampaaDoorCdG
import Derived.Test.YtolkdmhjomampaaDoorLvE
namespace Go.Proofs.YtolkdmhjomampaaDoor
open Go.RowKit

/-- What appendValue does with a value. -/
def App (v : Vl) : Prop := ∀ (ao : Option Addr) (cap : Nat) (w0 w : World) (n : Nat) (sv : Value) (xs : List Value), okX v = true → Vin v → SlV w0 ao v.ll cap → Fuw w0 w → w.ownsRow w0.heap.size 5 1 sv n xs → n + (putX v).length ≤ 100000000000000 →
  Calls Tryd.prog 39 #[sv, vlv v ao cap] w fun e w' => ∃ v', e = .returned v' ∧ w'.ownsRow w0.heap.size 5 1 v' (n + (putX v).length) (xs ++ Lib.byteCells (putX v)) ∧ Fuw w0 w'
theorem bx_keep {w w' : World} {B : Nat} {x : Vl} {ao : Option Addr} {cap : Nat} {o : Option Nat} (h : Bx w B x ao cap) (hk : KeepB w w' o) (hne : some B ≠ o) : Bx w' B x ao cap := by
  have k := h.lt
  unfold Bx at *
  rw [hk B k hne]; exact h
theorem byte_cell {k : Int} (h0 : 0 ≤ k) (h8 : k ≤ 8) : Lib.byteCells [k.toNat.toUInt8] = [.int .u8 k] := by
  have e : (k.toNat.toUInt8).toNat = k.toNat := by
    show k.toNat % 256 = k.toNat
    omega
  simp [Lib.byteCells]
  omega
theorem wrap_k {k : Int} (h0 : 0 ≤ k) (h8 : k ≤ 8) : IntKind.u8.wrap k = k := by rw [IntKind.wrap_u8]; omega
theorem own_len {w : World} {B n m : Nat} {v : Value} {xs ys : List Value} (h : w.ownsRow B 5 1 v n xs) (hn : n = m) (hx : xs = ys) : w.ownsRow B 5 1 v m ys := by rw [← hn, ← hx]; exact h
theorem at_byte (w : World) (H : Nat) (hH : w.heap.size = H) (z : Int) : ∀ j u, [Value.int .u8 z][j]? = some u → (w.alloc (.cells #[.int .u8 z] 5)).cell? ((⟨H, 0, none⟩ : Addr).add j) = some u := by
  subst hH
  intro j u hj
  match j, hj with
  | 0, hj => simp at hj; subst hj; simp [Addr.add]
theorem keep_one {w w1 : World} {sv v' : Value} {o : Obj} {H : Nat} (hH : w.heap.size ≤ H) (hg : (w.alloc o).grownBy w1 sv.ownBlock) (hat : v'.ownBlock = sv.ownBlock ∨ v'.ownBlock = some H) : KeepB w w1 sv.ownBlock ∧ Lies w sv v' := by
  refine ⟨fun b hb hne => (hg.block b (by simp; omega) hne).trans (Below.heap_alloc w o b hb), ?_⟩
  rcases hat with h | h
  · exact .inl h
  · exact .inr fun k e => by rw [h] at e; injection e with e; omega
theorem fuw_app {w0 w w1 : World} {n : Nat} {v : Value} {xs : List Value} {o : Obj} (hf : Fuw w0 w) (hown : w.ownsRow w0.heap.size 5 1 v n xs) (hg : (w.alloc o).grownBy w1 v.ownBlock) : Fuw w0 w1 :=
  Below.grown (Below.alloc hf hf.size o) hg (by have := hf.size; simp; omega) (fun k hk => (hown.lt k hk).1)
theorem own_head {w : World} {B m : Nat} {v : Value} {xs : List Value} {t : List UInt8} (k : Int) (h0 : 0 ≤ k) (h8 : k ≤ 8) (h : w.ownsRow B 5 1 v (m + 1 + t.length) (xs ++ [.int .u8 k] ++ Lib.byteCells t)) : w.ownsRow B 5 1 v (m + (k.toNat.toUInt8 :: t).length) (xs ++ Lib.byteCells (k.toNat.toUInt8 :: t)) := by
  refine own_len h (by rw [List.length_cons]; omega) ?_
  rw [show (k.toNat.toUInt8 :: t) = [k.toNat.toUInt8] ++ t from rfl, Lib.byteCells_append, byte_cell h0 h8, List.append_assoc]
theorem putXs_take (l : List Vl) (i : Nat) (h : i < l.length) : putXs (l.take (i + 1)) = putXs (l.take i) ++ putX l[i] := by
  induction l generalizing i with
  | nil => simp at h
  | cons x l ih =>
    cases i with
    | zero => simp [putXs_cons, putXs_nil]
    | succ i =>
      have k := ih i (by simpa using h)
      simp only [List.take_succ_cons, putXs_cons, List.getElem_cons_succ] at k ⊢
      rw [k, List.append_assoc]
theorem putXs_len (l : List Vl) (i : Nat) (h : i < l.length) : (putXs (l.take i)).length + (putX l[i]).length ≤ (putXs l).length := by
  have e1 := putXs_take l i h
  have e2 : ∀ (j : Nat), (putXs (l.take j)).length ≤ (putXs l).length := by
    intro j
    clear h e1
    induction l generalizing j with
    | nil => simp
    | cons x l ih =>
      cases j with
      | zero => simp [putXs_nil]
      | succ j => rw [List.take_succ_cons, putXs_cons, putXs_cons, List.length_append, List.length_append]; have := ih j; omega
  have e3 := e2 (i + 1)
  rw [e1, List.length_append] at e3
  exact e3

set_option maxHeartbeats 8000000 in
set_option maxRecDepth 100000 in
theorem app_0 : App (.mk 0 0 0 [] []) := by
  intro ao cap w0 w m sv xs hX hV hs hf hown hlim
  obtain ⟨i0, hi, hz0, hz1, hz2⟩ := info_parts infoB
  have hsz := hf.size
  have hvn : I64 0 := hV.n
  have hvd : I64 0 := hV.d
  have hne : some w.heap.size ≠ sv.ownBlock := fun e => by
    have := (hown.lt _ e.symm).2
    omega
  have HX := Lib.hid hX
  clear hX
  rw [putX_mk] at hlim ⊢
  rw [List.length_cons] at hlim
  unfold vlv
  simp only [Vl.kd, Vl.nn, Vl.dd, Vl.ss, Vl.ll]
  have e0 : tailX 0 0 0 [] [] = ([] : List UInt8) := by unfold tailX; simp
  rw [e0] at hlim ⊢
  clear e0
  have HE := Lib.hid (fun (w' : World) (v' : Value) (o : w'.ownsRow w0.heap.size 5 1 v' (m + 1 + (([] : List UInt8)).length) (xs ++ [.int .u8 0] ++ Lib.byteCells (([] : List UInt8)))) => own_head 0 (by decide) (by decide) o)
  obtain ⟨p0, q0⟩ : Bx (w.alloc (.cells #[.int .i64 0, .int .i64 0, .int .i64 0, .string (bs []), .slice ao 0 cap] 24)) w.heap.size (.mk 0 0 0 [] []) ao cap ∧ Fuw w (w.alloc (.cells #[.int .i64 0, .int .i64 0, .int .i64 0, .string (bs []), .slice ao 0 cap] 24)) := ⟨(bx1 w (.mk 0 0 0 [] []) ao cap).1, (bx1 w (.mk 0 0 0 [] []) ao cap).2.b⟩
  have hown1 := hown.alloc (.cells #[.int .i64 0, .int .i64 0, .int .i64 0, .string (bs []), .slice ao 0 cap] 24)
  obtain ⟨W1, hW⟩ : ∃ W1, w.alloc (.cells #[.int .i64 0, .int .i64 0, .int .i64 0, .string (bs []), .slice ao 0 cap] 24) = W1 := ⟨_, rfl⟩
  rw [hW] at p0 q0 hown1
  have HW := Lib.hid hW
  clear hW
  go_enter Tryd.func39, Tryd.ntmps39
  go_upto_region 1 with fail
  rw [HW.out]
  have hsz1 := p0.lt
  have f1 : Fuw w0 W1 := Fuw.trans hf q0
  obtain ⟨c0, c1, c2, c3, c4⟩ : _ ∧ _ ∧ _ ∧ _ ∧ _ := ⟨p0.c0, p0.c1, p0.c2, p0.c3, p0.c4⟩
  simp only [Vl.kd, Vl.nn, Vl.dd, Vl.ss, Vl.ll] at c0 c1 c2 c3 c4
  have hsz2 := f1.size
  clear hown HW
  go_wp2_with (first | fail | (at_builtin; refine wpList_append_own_at _ rfl (.tmp 7) (.tmp 11) 27 rfl w0.heap.size 5 i0 (.int .u8 0) 1 1 Tryd.underlying27 hi hz0 hz1 hz2 rfl (by decide) _ _ _ rfl (hown1.alloc _) ⟨W1.heap.size, 0, none⟩ 1 1 [.int .u8 0] rfl rfl (at_byte _ _ rfl _) (by intro u hu; simp at hu; subst hu; rfl) (by unfold maxLen; omega) (by omega) (by simp; omega) ?_; intro v5 w5 hown5 hgrow h99 hat; clear h99; refine Hid.out ?_))
  refine Lib.hid ?_
  have f5 : Fuw w0 w5 := fuw_app f1 hown1 hgrow
  obtain ⟨k5, l5⟩ := keep_one (w := W1) (by simp) hgrow hat
  have p5 := bx_keep p0 k5 hne
  clear c0 c1 c2 c3 c4 hgrow hat p0 q0 f1 hown1 k5
  obtain ⟨c0, c1, c2, c3, c4⟩ : _ ∧ _ ∧ _ ∧ _ ∧ _ := ⟨p5.c0, p5.c1, p5.c2, p5.c3, p5.c4⟩
  simp only [Vl.kd, Vl.nn, Vl.dd, Vl.ss, Vl.ll] at c0 c1 c2 c3 c4
  have hsz5 := f5.size
  have hne5 : some w.heap.size ≠ v5.ownBlock := fun e => by
    rcases l5 with q | q
    · exact hne (e.trans q)
    · have := q _ e.symm
      omega
  clear hsz1 hsz2
  go_wp2
  go_ret
  exact ⟨v5, rfl, own_len hown5 (by simp) (by rw [byte_cell (k := 0) (by decide) (by decide)]), f5⟩

set_option maxHeartbeats 8000000 in
set_option maxRecDepth 100000 in
theorem app_1 (n : Int) : App (.mk 1 n 0 [] []) := by
  intro ao cap w0 w m sv xs hX hV hs hf hown hlim
  obtain ⟨i0, hi, hz0, hz1, hz2⟩ := info_parts infoB
  have hsz := hf.size
  have hvn : I64 n := hV.n
  have hvd : I64 0 := hV.d
  have hne : some w.heap.size ≠ sv.ownBlock := fun e => by
    have := (hown.lt _ e.symm).2
    omega
  have HX := Lib.hid hX
  clear hX
  rw [putX_mk] at hlim ⊢
  rw [List.length_cons] at hlim
  unfold vlv
  simp only [Vl.kd, Vl.nn, Vl.dd, Vl.ss, Vl.ll]
  have e0 : tailX 1 n 0 [] [] = Lib.uvarint (Lib.zigzag n) := by unfold tailX; simp
  rw [e0] at hlim ⊢
  clear e0
  have HE := Lib.hid (fun (w' : World) (v' : Value) (o : w'.ownsRow w0.heap.size 5 1 v' (m + 1 + (Lib.uvarint (Lib.zigzag n)).length) (xs ++ [.int .u8 1] ++ Lib.byteCells (Lib.uvarint (Lib.zigzag n)))) => own_head 1 (by decide) (by decide) o)
  generalize m + ((1 : Int).toNat.toUInt8 :: (Lib.uvarint (Lib.zigzag n))).length = M at HE ⊢
  generalize xs ++ Lib.byteCells ((1 : Int).toNat.toUInt8 :: (Lib.uvarint (Lib.zigzag n))) = XS at HE ⊢
  obtain ⟨p0, q0⟩ : Bx (w.alloc (.cells #[.int .i64 1, .int .i64 n, .int .i64 0, .string (bs []), .slice ao 0 cap] 24)) w.heap.size (.mk 1 n 0 [] []) ao cap ∧ Fuw w (w.alloc (.cells #[.int .i64 1, .int .i64 n, .int .i64 0, .string (bs []), .slice ao 0 cap] 24)) := ⟨(bx1 w (.mk 1 n 0 [] []) ao cap).1, (bx1 w (.mk 1 n 0 [] []) ao cap).2.b⟩
  have hown1 := hown.alloc (.cells #[.int .i64 1, .int .i64 n, .int .i64 0, .string (bs []), .slice ao 0 cap] 24)
  obtain ⟨W1, hW⟩ : ∃ W1, w.alloc (.cells #[.int .i64 1, .int .i64 n, .int .i64 0, .string (bs []), .slice ao 0 cap] 24) = W1 := ⟨_, rfl⟩
  rw [hW] at p0 q0 hown1
  have HW := Lib.hid hW
  clear hW
  go_enter Tryd.func39, Tryd.ntmps39
  go_upto_region 1 with fail
  rw [HW.out]
  have hsz1 := p0.lt
  have f1 : Fuw w0 W1 := Fuw.trans hf q0
  obtain ⟨c0, c1, c2, c3, c4⟩ : _ ∧ _ ∧ _ ∧ _ ∧ _ := ⟨p0.c0, p0.c1, p0.c2, p0.c3, p0.c4⟩
  simp only [Vl.kd, Vl.nn, Vl.dd, Vl.ss, Vl.ll] at c0 c1 c2 c3 c4
  have hsz2 := f1.size
  clear hown HW
  go_wp2_with (first | fail | (at_builtin; refine wpList_append_own_at _ rfl (.tmp 7) (.tmp 11) 27 rfl w0.heap.size 5 i0 (.int .u8 0) 1 1 Tryd.underlying27 hi hz0 hz1 hz2 rfl (by decide) _ _ _ rfl (hown1.alloc _) ⟨W1.heap.size, 0, none⟩ 1 1 [.int .u8 1] rfl rfl (at_byte _ _ rfl _) (by intro u hu; simp at hu; subst hu; rfl) (by unfold maxLen; omega) (by omega) (by simp; omega) ?_; intro v5 w5 hown5 hgrow h99 hat; clear h99; refine Hid.out ?_))
  refine Lib.hid ?_
  have f5 : Fuw w0 w5 := fuw_app f1 hown1 hgrow
  obtain ⟨k5, l5⟩ := keep_one (w := W1) (by simp) hgrow hat
  have p5 := bx_keep p0 k5 hne
  clear c0 c1 c2 c3 c4 hgrow hat p0 q0 f1 hown1 k5
  obtain ⟨c0, c1, c2, c3, c4⟩ : _ ∧ _ ∧ _ ∧ _ ∧ _ := ⟨p5.c0, p5.c1, p5.c2, p5.c3, p5.c4⟩
  simp only [Vl.kd, Vl.nn, Vl.dd, Vl.ss, Vl.ll] at c0 c1 c2 c3 c4
  have hsz5 := f5.size
  have hne5 : some w.heap.size ≠ v5.ownBlock := fun e => by
    rcases l5 with q | q
    · exact hne (e.trans q)
    · have := q _ e.symm
      omega
  clear hsz1 hsz2
  have HC := Lib.hid (int_put w0.heap.size (m + 1) n hvn.1 hvn.2 v5 _ w5 hown5 hsz5 (by omega))
  clear hown5
  go_wp2_with fail
  go_at_call 36; refine HC.out.mono ?_; rintro e6 w6 ⟨v6, rfl, o6, b6⟩
  go_wp2
  go_ret
  exact ⟨v6, rfl, HE.out _ _ o6, Below.trans f5 b6⟩

set_option maxHeartbeats 8000000 in
set_option maxRecDepth 100000 in
theorem app_2 (n : Int) : App (.mk 2 n 0 [] []) := by
  intro ao cap w0 w m sv xs hX hV hs hf hown hlim
  obtain ⟨i0, hi, hz0, hz1, hz2⟩ := info_parts infoB
  have hsz := hf.size
  have hvn : I64 n := hV.n
  have hvd : I64 0 := hV.d
  have hne : some w.heap.size ≠ sv.ownBlock := fun e => by
    have := (hown.lt _ e.symm).2
    omega
  have HX := Lib.hid hX
  clear hX
  rw [putX_mk] at hlim ⊢
  rw [List.length_cons] at hlim
  unfold vlv
  simp only [Vl.kd, Vl.nn, Vl.dd, Vl.ss, Vl.ll]
  have e0 : tailX 2 n 0 [] [] = Lib.uvarint (Lib.zigzag n) := by unfold tailX; simp
  rw [e0] at hlim ⊢
  clear e0
  have HE := Lib.hid (fun (w' : World) (v' : Value) (o : w'.ownsRow w0.heap.size 5 1 v' (m + 1 + (Lib.uvarint (Lib.zigzag n)).length) (xs ++ [.int .u8 2] ++ Lib.byteCells (Lib.uvarint (Lib.zigzag n)))) => own_head 2 (by decide) (by decide) o)
  generalize m + ((2 : Int).toNat.toUInt8 :: (Lib.uvarint (Lib.zigzag n))).length = M at HE ⊢
  generalize xs ++ Lib.byteCells ((2 : Int).toNat.toUInt8 :: (Lib.uvarint (Lib.zigzag n))) = XS at HE ⊢
  obtain ⟨p0, q0⟩ : Bx (w.alloc (.cells #[.int .i64 2, .int .i64 n, .int .i64 0, .string (bs []), .slice ao 0 cap] 24)) w.heap.size (.mk 2 n 0 [] []) ao cap ∧ Fuw w (w.alloc (.cells #[.int .i64 2, .int .i64 n, .int .i64 0, .string (bs []), .slice ao 0 cap] 24)) := ⟨(bx1 w (.mk 2 n 0 [] []) ao cap).1, (bx1 w (.mk 2 n 0 [] []) ao cap).2.b⟩
  have hown1 := hown.alloc (.cells #[.int .i64 2, .int .i64 n, .int .i64 0, .string (bs []), .slice ao 0 cap] 24)
  obtain ⟨W1, hW⟩ : ∃ W1, w.alloc (.cells #[.int .i64 2, .int .i64 n, .int .i64 0, .string (bs []), .slice ao 0 cap] 24) = W1 := ⟨_, rfl⟩
  rw [hW] at p0 q0 hown1
  have HW := Lib.hid hW
  clear hW
  go_enter Tryd.func39, Tryd.ntmps39
  go_upto_region 1 with fail
  rw [HW.out]
  have hsz1 := p0.lt
  have f1 : Fuw w0 W1 := Fuw.trans hf q0
  obtain ⟨c0, c1, c2, c3, c4⟩ : _ ∧ _ ∧ _ ∧ _ ∧ _ := ⟨p0.c0, p0.c1, p0.c2, p0.c3, p0.c4⟩
  simp only [Vl.kd, Vl.nn, Vl.dd, Vl.ss, Vl.ll] at c0 c1 c2 c3 c4
  have hsz2 := f1.size
  clear hown HW
  go_wp2_with (first | fail | (at_builtin; refine wpList_append_own_at _ rfl (.tmp 7) (.tmp 11) 27 rfl w0.heap.size 5 i0 (.int .u8 0) 1 1 Tryd.underlying27 hi hz0 hz1 hz2 rfl (by decide) _ _ _ rfl (hown1.alloc _) ⟨W1.heap.size, 0, none⟩ 1 1 [.int .u8 2] rfl rfl (at_byte _ _ rfl _) (by intro u hu; simp at hu; subst hu; rfl) (by unfold maxLen; omega) (by omega) (by simp; omega) ?_; intro v5 w5 hown5 hgrow h99 hat; clear h99; refine Hid.out ?_))
  refine Lib.hid ?_
  have f5 : Fuw w0 w5 := fuw_app f1 hown1 hgrow
  obtain ⟨k5, l5⟩ := keep_one (w := W1) (by simp) hgrow hat
  have p5 := bx_keep p0 k5 hne
  clear c0 c1 c2 c3 c4 hgrow hat p0 q0 f1 hown1 k5
  obtain ⟨c0, c1, c2, c3, c4⟩ : _ ∧ _ ∧ _ ∧ _ ∧ _ := ⟨p5.c0, p5.c1, p5.c2, p5.c3, p5.c4⟩
  simp only [Vl.kd, Vl.nn, Vl.dd, Vl.ss, Vl.ll] at c0 c1 c2 c3 c4
  have hsz5 := f5.size
  have hne5 : some w.heap.size ≠ v5.ownBlock := fun e => by
    rcases l5 with q | q
    · exact hne (e.trans q)
    · have := q _ e.symm
      omega
  clear hsz1 hsz2
  have HC := Lib.hid (int_put w0.heap.size (m + 1) n hvn.1 hvn.2 v5 _ w5 hown5 hsz5 (by omega))
  clear hown5
  go_wp2_with fail
  go_at_call 36; refine HC.out.mono ?_; rintro e6 w6 ⟨v6, rfl, o6, b6⟩
  go_wp2
  go_ret
  exact ⟨v6, rfl, HE.out _ _ o6, Below.trans f5 b6⟩

set_option maxHeartbeats 8000000 in
set_option maxRecDepth 100000 in
theorem app_3 (n d : Int) : App (.mk 3 n d [] []) := by
  intro ao cap w0 w m sv xs hX hV hs hf hown hlim
  obtain ⟨i0, hi, hz0, hz1, hz2⟩ := info_parts infoB
  have hsz := hf.size
  have hvn : I64 n := hV.n
  have hvd : I64 d := hV.d
  have hne : some w.heap.size ≠ sv.ownBlock := fun e => by
    have := (hown.lt _ e.symm).2
    omega
  have HX := Lib.hid hX
  clear hX
  rw [putX_mk] at hlim ⊢
  rw [List.length_cons] at hlim
  unfold vlv
  simp only [Vl.kd, Vl.nn, Vl.dd, Vl.ss, Vl.ll]
  have e0 : tailX 3 n d [] [] = Lib.uvarint (Lib.zigzag n) ++ Lib.uvarint (Lib.zigzag d) := by unfold tailX; simp
  rw [e0] at hlim ⊢
  clear e0
  have HE := Lib.hid (fun (w' : World) (v' : Value) (o : w'.ownsRow w0.heap.size 5 1 v' (m + 1 + (Lib.uvarint (Lib.zigzag n) ++ Lib.uvarint (Lib.zigzag d)).length) (xs ++ [.int .u8 3] ++ Lib.byteCells (Lib.uvarint (Lib.zigzag n) ++ Lib.uvarint (Lib.zigzag d)))) => own_head 3 (by decide) (by decide) o)
  generalize m + ((3 : Int).toNat.toUInt8 :: (Lib.uvarint (Lib.zigzag n) ++ Lib.uvarint (Lib.zigzag d))).length = M at HE ⊢
  generalize xs ++ Lib.byteCells ((3 : Int).toNat.toUInt8 :: (Lib.uvarint (Lib.zigzag n) ++ Lib.uvarint (Lib.zigzag d))) = XS at HE ⊢
  obtain ⟨p0, q0⟩ : Bx (w.alloc (.cells #[.int .i64 3, .int .i64 n, .int .i64 d, .string (bs []), .slice ao 0 cap] 24)) w.heap.size (.mk 3 n d [] []) ao cap ∧ Fuw w (w.alloc (.cells #[.int .i64 3, .int .i64 n, .int .i64 d, .string (bs []), .slice ao 0 cap] 24)) := ⟨(bx1 w (.mk 3 n d [] []) ao cap).1, (bx1 w (.mk 3 n d [] []) ao cap).2.b⟩
  have hown1 := hown.alloc (.cells #[.int .i64 3, .int .i64 n, .int .i64 d, .string (bs []), .slice ao 0 cap] 24)
  obtain ⟨W1, hW⟩ : ∃ W1, w.alloc (.cells #[.int .i64 3, .int .i64 n, .int .i64 d, .string (bs []), .slice ao 0 cap] 24) = W1 := ⟨_, rfl⟩
  rw [hW] at p0 q0 hown1
  have HW := Lib.hid hW
  clear hW
  go_enter Tryd.func39, Tryd.ntmps39
  go_upto_region 1 with fail
  rw [HW.out]
  have hsz1 := p0.lt
  have f1 : Fuw w0 W1 := Fuw.trans hf q0
  obtain ⟨c0, c1, c2, c3, c4⟩ : _ ∧ _ ∧ _ ∧ _ ∧ _ := ⟨p0.c0, p0.c1, p0.c2, p0.c3, p0.c4⟩
  simp only [Vl.kd, Vl.nn, Vl.dd, Vl.ss, Vl.ll] at c0 c1 c2 c3 c4
  have hsz2 := f1.size
  clear hown HW
  go_wp2_with (first | fail | (at_builtin; refine wpList_append_own_at _ rfl (.tmp 7) (.tmp 11) 27 rfl w0.heap.size 5 i0 (.int .u8 0) 1 1 Tryd.underlying27 hi hz0 hz1 hz2 rfl (by decide) _ _ _ rfl (hown1.alloc _) ⟨W1.heap.size, 0, none⟩ 1 1 [.int .u8 3] rfl rfl (at_byte _ _ rfl _) (by intro u hu; simp at hu; subst hu; rfl) (by unfold maxLen; omega) (by omega) (by simp; omega) ?_; intro v5 w5 hown5 hgrow h99 hat; clear h99; refine Hid.out ?_))
  refine Lib.hid ?_
  have f5 : Fuw w0 w5 := fuw_app f1 hown1 hgrow
  obtain ⟨k5, l5⟩ := keep_one (w := W1) (by simp) hgrow hat
  have p5 := bx_keep p0 k5 hne
  clear c0 c1 c2 c3 c4 hgrow hat p0 q0 f1 hown1 k5
  obtain ⟨c0, c1, c2, c3, c4⟩ : _ ∧ _ ∧ _ ∧ _ ∧ _ := ⟨p5.c0, p5.c1, p5.c2, p5.c3, p5.c4⟩
  simp only [Vl.kd, Vl.nn, Vl.dd, Vl.ss, Vl.ll] at c0 c1 c2 c3 c4
  have hsz5 := f5.size
  have hne5 : some w.heap.size ≠ v5.ownBlock := fun e => by
    rcases l5 with q | q
    · exact hne (e.trans q)
    · have := q _ e.symm
      omega
  clear hsz1 hsz2
  rw [List.length_append] at hlim
  have HC := Lib.hid (fun w' (ho : w'.ownsRow w0.heap.size 5 1 v5 (m + 1) (xs ++ [.int .u8 3])) (hB : w0.heap.size ≤ w'.heap.size) => int_put2 w0.heap.size (m + 1) n hvn.1 hvn.2 v5 _ w' ho hB (by omega))
  have HD := Lib.hid (fun w' v6 (ho : w'.ownsRow w0.heap.size 5 1 v6 (m + 1 + (Lib.uvarint (Lib.zigzag n)).length) (xs ++ [.int .u8 3] ++ Lib.byteCells (Lib.uvarint (Lib.zigzag n)))) (hB : w0.heap.size ≤ w'.heap.size) => int_put w0.heap.size (m + 1 + (Lib.uvarint (Lib.zigzag n)).length) d hvd.1 hvd.2 v6 _ w' ho hB (by omega))
  have o5 : w5.drew.ownsRow w0.heap.size 5 1 v5 (m + 1) (xs ++ [.int .u8 3]) := hown5
  have f5' : Fuw w0 w5.drew := Fuw.drew f5
  clear hown5 hlim
  go_upto_region 9 with fail
  go_region_with (first
    | (go_at_call_of 36 v5; refine (HC.out _ o5 f5'.size).mono ?_; rintro e6 w6 ⟨v6, rfl, o6, b6, k6, l6⟩; have d2 := (bx_keep (w := w5.drew) p5 k6 hne5).c2; simp only [Vl.dd] at d2; replace f5' := Below.trans f5' b6)
    | (go_at_call 36; refine (HD.out _ _ o6 f5'.size).mono ?_; rintro e7 w7 ⟨v7, rfl, o7, b7⟩; replace f5' := Below.trans f5' b7))
  all_goals
    go_wp2
    go_ret
    exact ⟨v7, rfl, HE.out _ _ (own_len o7 (by rw [List.length_append]; omega) (by rw [Lib.byteCells_append, ← List.append_assoc])), f5'⟩

set_option maxHeartbeats 8000000 in
set_option maxRecDepth 100000 in
theorem app_4 (s : List UInt8) : App (.mk 4 0 0 s []) := by
  intro ao cap w0 w m sv xs hX hV hs hf hown hlim
  obtain ⟨i0, hi, hz0, hz1, hz2⟩ := info_parts infoB
  have hsz := hf.size
  have hvn : I64 0 := hV.n
  have hvd : I64 0 := hV.d
  have hne : some w.heap.size ≠ sv.ownBlock := fun e => by
    have := (hown.lt _ e.symm).2
    omega
  have HX := Lib.hid hX
  clear hX
  rw [putX_mk] at hlim ⊢
  rw [List.length_cons] at hlim
  unfold vlv
  simp only [Vl.kd, Vl.nn, Vl.dd, Vl.ss, Vl.ll]
  have e0 : tailX 4 0 0 s [] = Lib.uvarint s.length ++ s := by unfold tailX; simp
  rw [e0] at hlim ⊢
  clear e0
  have HE := Lib.hid (fun (w' : World) (v' : Value) (o : w'.ownsRow w0.heap.size 5 1 v' (m + 1 + (Lib.uvarint s.length ++ s).length) (xs ++ [.int .u8 4] ++ Lib.byteCells (Lib.uvarint s.length ++ s))) => own_head 4 (by decide) (by decide) o)
  generalize m + ((4 : Int).toNat.toUInt8 :: (Lib.uvarint s.length ++ s)).length = M at HE ⊢
  generalize xs ++ Lib.byteCells ((4 : Int).toNat.toUInt8 :: (Lib.uvarint s.length ++ s)) = XS at HE ⊢
  obtain ⟨p0, q0⟩ : Bx (w.alloc (.cells #[.int .i64 4, .int .i64 0, .int .i64 0, .string (bs s), .slice ao 0 cap] 24)) w.heap.size (.mk 4 0 0 s []) ao cap ∧ Fuw w (w.alloc (.cells #[.int .i64 4, .int .i64 0, .int .i64 0, .string (bs s), .slice ao 0 cap] 24)) := ⟨(bx1 w (.mk 4 0 0 s []) ao cap).1, (bx1 w (.mk 4 0 0 s []) ao cap).2.b⟩
  have hown1 := hown.alloc (.cells #[.int .i64 4, .int .i64 0, .int .i64 0, .string (bs s), .slice ao 0 cap] 24)
  obtain ⟨W1, hW⟩ : ∃ W1, w.alloc (.cells #[.int .i64 4, .int .i64 0, .int .i64 0, .string (bs s), .slice ao 0 cap] 24) = W1 := ⟨_, rfl⟩
  rw [hW] at p0 q0 hown1
  have HW := Lib.hid hW
  clear hW
  go_enter Tryd.func39, Tryd.ntmps39
  go_upto_region 1 with fail
  rw [HW.out]
  have hsz1 := p0.lt
  have f1 : Fuw w0 W1 := Fuw.trans hf q0
  obtain ⟨c0, c1, c2, c3, c4⟩ : _ ∧ _ ∧ _ ∧ _ ∧ _ := ⟨p0.c0, p0.c1, p0.c2, p0.c3, p0.c4⟩
  simp only [Vl.kd, Vl.nn, Vl.dd, Vl.ss, Vl.ll] at c0 c1 c2 c3 c4
  have hsz2 := f1.size
  clear hown HW
  go_wp2_with (first | fail | (at_builtin; refine wpList_append_own_at _ rfl (.tmp 7) (.tmp 11) 27 rfl w0.heap.size 5 i0 (.int .u8 0) 1 1 Tryd.underlying27 hi hz0 hz1 hz2 rfl (by decide) _ _ _ rfl (hown1.alloc _) ⟨W1.heap.size, 0, none⟩ 1 1 [.int .u8 4] rfl rfl (at_byte _ _ rfl _) (by intro u hu; simp at hu; subst hu; rfl) (by unfold maxLen; omega) (by omega) (by simp; omega) ?_; intro v5 w5 hown5 hgrow h99 hat; clear h99; refine Hid.out ?_))
  refine Lib.hid ?_
  have f5 : Fuw w0 w5 := fuw_app f1 hown1 hgrow
  obtain ⟨k5, l5⟩ := keep_one (w := W1) (by simp) hgrow hat
  have p5 := bx_keep p0 k5 hne
  clear c0 c1 c2 c3 c4 hgrow hat p0 q0 f1 hown1 k5
  obtain ⟨c0, c1, c2, c3, c4⟩ : _ ∧ _ ∧ _ ∧ _ ∧ _ := ⟨p5.c0, p5.c1, p5.c2, p5.c3, p5.c4⟩
  simp only [Vl.kd, Vl.nn, Vl.dd, Vl.ss, Vl.ll] at c0 c1 c2 c3 c4
  have hsz5 := f5.size
  have hne5 : some w.heap.size ≠ v5.ownBlock := fun e => by
    rcases l5 with q | q
    · exact hne (e.trans q)
    · have := q _ e.symm
      omega
  clear hsz1 hsz2
  have hs100 : s.length ≤ 100 := by
    have hX := HX.out
    unfold okX okV at hX
    simp at hX
    unfold okFlat at hX
    simp [okStr] at hX
    exact hX.2.2
  have e1 : (bs s).size = s.length := by show s.toArray.size = s.length; simp
  have e2 : (bs s).data.toList = s := by simp [bs]
  have hc := str_put w0.heap.size (m + 1) (bs s) (by rw [e1]; omega) v5 _ w5 hown5 hsz5 (by omega)
  rw [e1, e2] at hc
  have HC := Lib.hid hc
  clear hown5 hc e1 e2
  go_wp2_with fail
  go_at_call 37; refine HC.out.mono ?_; rintro e6 w6 ⟨v6, rfl, o6, b6⟩
  go_wp2
  go_ret
  exact ⟨v6, rfl, HE.out _ _ (own_len o6 (by rw [List.length_append]; omega) (by rw [Lib.byteCells_append, ← List.append_assoc])), Below.trans f5 b6⟩

set_option maxHeartbeats 8000000 in
set_option maxRecDepth 100000 in
theorem app_5 (n : Int) : App (.mk 5 n 0 [] []) := by
  intro ao cap w0 w m sv xs hX hV hs hf hown hlim
  obtain ⟨i0, hi, hz0, hz1, hz2⟩ := info_parts infoB
  have hsz := hf.size
  have hvn : I64 n := hV.n
  have hvd : I64 0 := hV.d
  have hne : some w.heap.size ≠ sv.ownBlock := fun e => by
    have := (hown.lt _ e.symm).2
    omega
  have HX := Lib.hid hX
  clear hX
  rw [putX_mk] at hlim ⊢
  rw [List.length_cons] at hlim
  unfold vlv
  simp only [Vl.kd, Vl.nn, Vl.dd, Vl.ss, Vl.ll]
  have e0 : tailX 5 n 0 [] [] = Lib.uvarint (Lib.zigzag n) := by unfold tailX; simp
  rw [e0] at hlim ⊢
  clear e0
  have HE := Lib.hid (fun (w' : World) (v' : Value) (o : w'.ownsRow w0.heap.size 5 1 v' (m + 1 + (Lib.uvarint (Lib.zigzag n)).length) (xs ++ [.int .u8 5] ++ Lib.byteCells (Lib.uvarint (Lib.zigzag n)))) => own_head 5 (by decide) (by decide) o)
  generalize m + ((5 : Int).toNat.toUInt8 :: (Lib.uvarint (Lib.zigzag n))).length = M at HE ⊢
  generalize xs ++ Lib.byteCells ((5 : Int).toNat.toUInt8 :: (Lib.uvarint (Lib.zigzag n))) = XS at HE ⊢
  obtain ⟨p0, q0⟩ : Bx (w.alloc (.cells #[.int .i64 5, .int .i64 n, .int .i64 0, .string (bs []), .slice ao 0 cap] 24)) w.heap.size (.mk 5 n 0 [] []) ao cap ∧ Fuw w (w.alloc (.cells #[.int .i64 5, .int .i64 n, .int .i64 0, .string (bs []), .slice ao 0 cap] 24)) := ⟨(bx1 w (.mk 5 n 0 [] []) ao cap).1, (bx1 w (.mk 5 n 0 [] []) ao cap).2.b⟩
  have hown1 := hown.alloc (.cells #[.int .i64 5, .int .i64 n, .int .i64 0, .string (bs []), .slice ao 0 cap] 24)
  obtain ⟨W1, hW⟩ : ∃ W1, w.alloc (.cells #[.int .i64 5, .int .i64 n, .int .i64 0, .string (bs []), .slice ao 0 cap] 24) = W1 := ⟨_, rfl⟩
  rw [hW] at p0 q0 hown1
  have HW := Lib.hid hW
  clear hW
  go_enter Tryd.func39, Tryd.ntmps39
  go_upto_region 1 with fail
  rw [HW.out]
  have hsz1 := p0.lt
  have f1 : Fuw w0 W1 := Fuw.trans hf q0
  obtain ⟨c0, c1, c2, c3, c4⟩ : _ ∧ _ ∧ _ ∧ _ ∧ _ := ⟨p0.c0, p0.c1, p0.c2, p0.c3, p0.c4⟩
  simp only [Vl.kd, Vl.nn, Vl.dd, Vl.ss, Vl.ll] at c0 c1 c2 c3 c4
  have hsz2 := f1.size
  clear hown HW
  go_wp2_with (first | fail | (at_builtin; refine wpList_append_own_at _ rfl (.tmp 7) (.tmp 11) 27 rfl w0.heap.size 5 i0 (.int .u8 0) 1 1 Tryd.underlying27 hi hz0 hz1 hz2 rfl (by decide) _ _ _ rfl (hown1.alloc _) ⟨W1.heap.size, 0, none⟩ 1 1 [.int .u8 5] rfl rfl (at_byte _ _ rfl _) (by intro u hu; simp at hu; subst hu; rfl) (by unfold maxLen; omega) (by omega) (by simp; omega) ?_; intro v5 w5 hown5 hgrow h99 hat; clear h99; refine Hid.out ?_))
  refine Lib.hid ?_
  have f5 : Fuw w0 w5 := fuw_app f1 hown1 hgrow
  obtain ⟨k5, l5⟩ := keep_one (w := W1) (by simp) hgrow hat
  have p5 := bx_keep p0 k5 hne
  clear c0 c1 c2 c3 c4 hgrow hat p0 q0 f1 hown1 k5
  obtain ⟨c0, c1, c2, c3, c4⟩ : _ ∧ _ ∧ _ ∧ _ ∧ _ := ⟨p5.c0, p5.c1, p5.c2, p5.c3, p5.c4⟩
  simp only [Vl.kd, Vl.nn, Vl.dd, Vl.ss, Vl.ll] at c0 c1 c2 c3 c4
  have hsz5 := f5.size
  have hne5 : some w.heap.size ≠ v5.ownBlock := fun e => by
    rcases l5 with q | q
    · exact hne (e.trans q)
    · have := q _ e.symm
      omega
  clear hsz1 hsz2
  have HC := Lib.hid (int_put w0.heap.size (m + 1) n hvn.1 hvn.2 v5 _ w5 hown5 hsz5 (by omega))
  clear hown5
  go_wp2_with fail
  go_at_call 36; refine HC.out.mono ?_; rintro e6 w6 ⟨v6, rfl, o6, b6⟩
  go_wp2
  go_ret
  exact ⟨v6, rfl, HE.out _ _ o6, Below.trans f5 b6⟩

set_option maxHeartbeats 8000000 in
set_option maxRecDepth 100000 in
theorem app_6 (n : Int) : App (.mk 6 n 0 [] []) := by
  intro ao cap w0 w m sv xs hX hV hs hf hown hlim
  obtain ⟨i0, hi, hz0, hz1, hz2⟩ := info_parts infoB
  have hsz := hf.size
  have hvn : I64 n := hV.n
  have hvd : I64 0 := hV.d
  have hne : some w.heap.size ≠ sv.ownBlock := fun e => by
    have := (hown.lt _ e.symm).2
    omega
  have HX := Lib.hid hX
  clear hX
  rw [putX_mk] at hlim ⊢
  rw [List.length_cons] at hlim
  unfold vlv
  simp only [Vl.kd, Vl.nn, Vl.dd, Vl.ss, Vl.ll]
  have e0 : tailX 6 n 0 [] [] = Lib.uvarint (Lib.zigzag n) := by unfold tailX; simp
  rw [e0] at hlim ⊢
  clear e0
  have HE := Lib.hid (fun (w' : World) (v' : Value) (o : w'.ownsRow w0.heap.size 5 1 v' (m + 1 + (Lib.uvarint (Lib.zigzag n)).length) (xs ++ [.int .u8 6] ++ Lib.byteCells (Lib.uvarint (Lib.zigzag n)))) => own_head 6 (by decide) (by decide) o)
  generalize m + ((6 : Int).toNat.toUInt8 :: (Lib.uvarint (Lib.zigzag n))).length = M at HE ⊢
  generalize xs ++ Lib.byteCells ((6 : Int).toNat.toUInt8 :: (Lib.uvarint (Lib.zigzag n))) = XS at HE ⊢
  obtain ⟨p0, q0⟩ : Bx (w.alloc (.cells #[.int .i64 6, .int .i64 n, .int .i64 0, .string (bs []), .slice ao 0 cap] 24)) w.heap.size (.mk 6 n 0 [] []) ao cap ∧ Fuw w (w.alloc (.cells #[.int .i64 6, .int .i64 n, .int .i64 0, .string (bs []), .slice ao 0 cap] 24)) := ⟨(bx1 w (.mk 6 n 0 [] []) ao cap).1, (bx1 w (.mk 6 n 0 [] []) ao cap).2.b⟩
  have hown1 := hown.alloc (.cells #[.int .i64 6, .int .i64 n, .int .i64 0, .string (bs []), .slice ao 0 cap] 24)
  obtain ⟨W1, hW⟩ : ∃ W1, w.alloc (.cells #[.int .i64 6, .int .i64 n, .int .i64 0, .string (bs []), .slice ao 0 cap] 24) = W1 := ⟨_, rfl⟩
  rw [hW] at p0 q0 hown1
  have HW := Lib.hid hW
  clear hW
  go_enter Tryd.func39, Tryd.ntmps39
  go_upto_region 1 with fail
  rw [HW.out]
  have hsz1 := p0.lt
  have f1 : Fuw w0 W1 := Fuw.trans hf q0
  obtain ⟨c0, c1, c2, c3, c4⟩ : _ ∧ _ ∧ _ ∧ _ ∧ _ := ⟨p0.c0, p0.c1, p0.c2, p0.c3, p0.c4⟩
  simp only [Vl.kd, Vl.nn, Vl.dd, Vl.ss, Vl.ll] at c0 c1 c2 c3 c4
  have hsz2 := f1.size
  clear hown HW
  go_wp2_with (first | fail | (at_builtin; refine wpList_append_own_at _ rfl (.tmp 7) (.tmp 11) 27 rfl w0.heap.size 5 i0 (.int .u8 0) 1 1 Tryd.underlying27 hi hz0 hz1 hz2 rfl (by decide) _ _ _ rfl (hown1.alloc _) ⟨W1.heap.size, 0, none⟩ 1 1 [.int .u8 6] rfl rfl (at_byte _ _ rfl _) (by intro u hu; simp at hu; subst hu; rfl) (by unfold maxLen; omega) (by omega) (by simp; omega) ?_; intro v5 w5 hown5 hgrow h99 hat; clear h99; refine Hid.out ?_))
  refine Lib.hid ?_
  have f5 : Fuw w0 w5 := fuw_app f1 hown1 hgrow
  obtain ⟨k5, l5⟩ := keep_one (w := W1) (by simp) hgrow hat
  have p5 := bx_keep p0 k5 hne
  clear c0 c1 c2 c3 c4 hgrow hat p0 q0 f1 hown1 k5
  obtain ⟨c0, c1, c2, c3, c4⟩ : _ ∧ _ ∧ _ ∧ _ ∧ _ := ⟨p5.c0, p5.c1, p5.c2, p5.c3, p5.c4⟩
  simp only [Vl.kd, Vl.nn, Vl.dd, Vl.ss, Vl.ll] at c0 c1 c2 c3 c4
  have hsz5 := f5.size
  have hne5 : some w.heap.size ≠ v5.ownBlock := fun e => by
    rcases l5 with q | q
    · exact hne (e.trans q)
    · have := q _ e.symm
      omega
  clear hsz1 hsz2
  have HC := Lib.hid (int_put w0.heap.size (m + 1) n hvn.1 hvn.2 v5 _ w5 hown5 hsz5 (by omega))
  clear hown5
  go_wp2_with fail
  go_at_call 36; refine HC.out.mono ?_; rintro e6 w6 ⟨v6, rfl, o6, b6⟩
  go_wp2
  go_ret
  exact ⟨v6, rfl, HE.out _ _ o6, Below.trans f5 b6⟩

set_option maxHeartbeats 8000000 in
set_option maxRecDepth 100000 in
theorem app_7 (l : List Vl) (HO : ∀ x ∈ l, App x) (hall : AllOk l) : App (.mk 7 0 0 [] l) := by
  intro ao cap w0 w m sv xs hX hV hs hf hown hlim
  obtain ⟨i0, hi, hz0, hz1, hz2⟩ := info_parts infoB
  have hsz := hf.size
  have hvn : I64 0 := hV.n
  have hvd : I64 0 := hV.d
  have hne : some w.heap.size ≠ sv.ownBlock := fun e => by
    have := (hown.lt _ e.symm).2
    omega
  have HX := Lib.hid hX
  clear hX
  rw [putX_mk] at hlim ⊢
  rw [List.length_cons] at hlim
  unfold vlv
  simp only [Vl.kd, Vl.nn, Vl.dd, Vl.ss, Vl.ll]
  have e0 : tailX 7 0 0 [] l = Lib.uvarint l.length ++ putXs l := by unfold tailX; simp
  rw [e0] at hlim ⊢
  clear e0
  have HE := Lib.hid (fun (w' : World) (v' : Value) (o : w'.ownsRow w0.heap.size 5 1 v' (m + 1 + (Lib.uvarint l.length ++ putXs l).length) (xs ++ [.int .u8 7] ++ Lib.byteCells (Lib.uvarint l.length ++ putXs l))) => own_head 7 (by decide) (by decide) o)
  generalize m + ((7 : Int).toNat.toUInt8 :: (Lib.uvarint l.length ++ putXs l)).length = M at HE ⊢
  generalize xs ++ Lib.byteCells ((7 : Int).toNat.toUInt8 :: (Lib.uvarint l.length ++ putXs l)) = XS at HE ⊢
  obtain ⟨p0, q0⟩ : Bx (w.alloc (.cells #[.int .i64 7, .int .i64 0, .int .i64 0, .string (bs []), .slice ao l.length cap] 24)) w.heap.size (.mk 7 0 0 [] l) ao cap ∧ Fuw w (w.alloc (.cells #[.int .i64 7, .int .i64 0, .int .i64 0, .string (bs []), .slice ao l.length cap] 24)) := ⟨(bx1 w (.mk 7 0 0 [] l) ao cap).1, (bx1 w (.mk 7 0 0 [] l) ao cap).2.b⟩
  have hown1 := hown.alloc (.cells #[.int .i64 7, .int .i64 0, .int .i64 0, .string (bs []), .slice ao l.length cap] 24)
  obtain ⟨W1, hW⟩ : ∃ W1, w.alloc (.cells #[.int .i64 7, .int .i64 0, .int .i64 0, .string (bs []), .slice ao l.length cap] 24) = W1 := ⟨_, rfl⟩
  rw [hW] at p0 q0 hown1
  have HW := Lib.hid hW
  clear hW
  go_enter Tryd.func39, Tryd.ntmps39
  go_upto_region 1 with fail
  rw [HW.out]
  have hsz1 := p0.lt
  have f1 : Fuw w0 W1 := Fuw.trans hf q0
  obtain ⟨c0, c1, c2, c3, c4⟩ : _ ∧ _ ∧ _ ∧ _ ∧ _ := ⟨p0.c0, p0.c1, p0.c2, p0.c3, p0.c4⟩
  simp only [Vl.kd, Vl.nn, Vl.dd, Vl.ss, Vl.ll] at c0 c1 c2 c3 c4
  have hsz2 := f1.size
  clear hown HW
  go_wp2_with (first | fail | (at_builtin; refine wpList_append_own_at _ rfl (.tmp 7) (.tmp 11) 27 rfl w0.heap.size 5 i0 (.int .u8 0) 1 1 Tryd.underlying27 hi hz0 hz1 hz2 rfl (by decide) _ _ _ rfl (hown1.alloc _) ⟨W1.heap.size, 0, none⟩ 1 1 [.int .u8 7] rfl rfl (at_byte _ _ rfl _) (by intro u hu; simp at hu; subst hu; rfl) (by unfold maxLen; omega) (by omega) (by simp; omega) ?_; intro v5 w5 hown5 hgrow h99 hat; clear h99; refine Hid.out ?_))
  refine Lib.hid ?_
  have f5 : Fuw w0 w5 := fuw_app f1 hown1 hgrow
  obtain ⟨k5, l5⟩ := keep_one (w := W1) (by simp) hgrow hat
  have p5 := bx_keep p0 k5 hne
  clear c0 c1 c2 c3 c4 hgrow hat p0 q0 f1 hown1 k5
  obtain ⟨c0, c1, c2, c3, c4⟩ : _ ∧ _ ∧ _ ∧ _ ∧ _ := ⟨p5.c0, p5.c1, p5.c2, p5.c3, p5.c4⟩
  simp only [Vl.kd, Vl.nn, Vl.dd, Vl.ss, Vl.ll] at c0 c1 c2 c3 c4
  have hsz5 := f5.size
  have hne5 : some w.heap.size ≠ v5.ownBlock := fun e => by
    rcases l5 with q | q
    · exact hne (e.trans q)
    · have := q _ e.symm
      omega
  clear hsz1 hsz2
  rw [List.length_append] at hlim
  have hll : l.length ≤ maxLen := Nat.le_trans hs.le hs.max
  unfold maxLen at hll
  have HC := Lib.hid (varint_put2 w0.heap.size (m + 1) l.length (by omega) v5 _ w5 hown5 hsz5 (by omega))
  have hs9 : SlV w0 ao l cap := hs
  have HS := Lib.hid hs9
  clear hs hs9
  have HB := Lib.hid hlim
  clear hown5 hlim
  have hmm : (l.length : Int) < 9223372036854775808 := by omega
  go_wp2_with fail
  go_at_call 34; refine HC.out.mono ?_; rintro e6 w6 ⟨v6, rfl, o6, b6, k6, l6⟩
  have f6 : Fuw w0 w6 := Below.trans f5 b6
  have d4 := (bx_keep p5 k6 hne5).c4
  simp only [Vl.ll] at d4
  have hq : ∃ q : List UInt8, Hid (q = Lib.uvarint l.length ++ putXs (l.take 0)) ∧ w6.ownsRow w0.heap.size 5 1 v6 (m + 1 + q.length) (xs ++ [.int .u8 7] ++ Lib.byteCells q) :=
    ⟨_, rfl, own_len o6 (by simp [putXs_nil]) (by simp [putXs_nil])⟩
  clear HC o6 b6 k6 l6 c0 c1 c2 c3 c4 p5 hne5 l5 f5 hsz5
  go_wp2
  go_loopw [0, 51] (fun ov iv wr => ∃ (i : Nat) (q : List UInt8), iv = .int .i64 i ∧ i ≤ l.length ∧ Hid (q = Lib.uvarint l.length ++ putXs (l.take i)) ∧ wr.ownsRow w0.heap.size 5 1 ov (m + 1 + q.length) (xs ++ [.int .u8 7] ++ Lib.byteCells q) ∧ Fuw w0 wr) (fun _ iv _ => l.length - (RowKit.intOf iv).toNat)
  case atStart =>
    obtain ⟨q, hq1, hq2⟩ := hq
    exact ⟨0, q, rfl, Nat.zero_le _, hq1, hq2, f6⟩
  case round =>
    clear hq d4 f6
    obtain ⟨i, q, rfl, hi', HQ, ho, hfr⟩ := hrel
    by_cases hlt : i < l.length
    · obtain ⟨b, o, rfl, hc⟩ := HS.out.get hlt
      have hy := (VC_of hc).1
      obtain ⟨-, c0, c1, c2, c3, -⟩ := VC_of (VC_onw hfr hc)
      have hmem : l[i] ∈ l := List.getElem_mem hlt
      have hA := HO l[i] hmem
      have hX2 := hall l[i] hmem
      have hbd := putXs_len l i hlt
      have hlq : q.length = (Lib.uvarint l.length).length + (putXs (l.take i)).length := by rw [HQ.out]; simp
      have hbb := HB.out
      have hbq : m + 1 + q.length + (putX l[i]).length ≤ 100000000000000 := by omega
      have HN := Lib.hid (show q ++ putX l[i] = Lib.uvarint l.length ++ putXs (l.take (i + 1)) by rw [HQ.out, putXs_take l i hlt]; simp)
      obtain ⟨a2, k2, hs2, c4⟩ : ∃ a2 k2, SlV w0 a2 l[i].ll k2 ∧ wr.cell? ⟨b, o + i * 5 + 4, none⟩ = some (.slice a2 l[i].ll.length k2) := by
        obtain ⟨_, _, _, _, _, a2, k2, d4, hs2⟩ := VC_of hc
        refine ⟨a2, k2, hs2, ?_⟩
        rw [Below.cell hfr (p := ⟨b, o + i * 5 + 4, none⟩) (by simpa using World.block_lt_of_cell? w0 _ d4)]
        exact d4
      have HA := Lib.hid (fun w' (hf' : Fuw w0 w') (ho' : w'.ownsRow w0.heap.size 5 1 u0 (m + 1 + q.length) (xs ++ [.int .u8 7] ++ Lib.byteCells q)) => hA a2 k2 w0 w' (m + 1 + q.length) u0 _ hX2 hy hs2 hf' ho' hbq)
      obtain ⟨p9, q9⟩ := bx1 wr l[i] a2 k2
      have g9 := q9.b
      have ho9 := ho.alloc (.cells #[.int .i64 l[i].kd, .int .i64 l[i].nn, .int .i64 l[i].dd, .string (bs l[i].ss), .slice a2 l[i].ll.length k2] 24)
      unfold vlv at HA
      clear hA hX2 hbd hlq hbb hbq hs2 hc hmem hy p9 q9 ho
      generalize putX l[i] = px at HN HA
      generalize l[i] = u at *
      have F9 := Lib.hid (Fuw.trans hfr g9)
      clear g9
      go_wp2_with fail
      go_at_call 39; refine (HA.out _ F9.out ho9).mono ?_; rintro e7 w7 ⟨v7, rfl, o7, b7⟩
      have HO7 := Lib.hid (own_len o7 (show m + 1 + q.length + px.length = m + 1 + (q ++ px).length by rw [List.length_append]; omega) (show xs ++ [Value.int .u8 7] ++ Lib.byteCells q ++ Lib.byteCells px = xs ++ [Value.int .u8 7] ++ Lib.byteCells (q ++ px) by rw [Lib.byteCells_append, ← List.append_assoc]))
      clear o7
      go_wp2
      go_roundw
      case rel => exact ⟨i + 1, q ++ px, by go_num, by omega, HN.out, HO7.out, b7⟩
      case measure => simp [RowKit.intOf]; omega
    · have e : i = l.length := by omega
      subst e
      have HN := Lib.hid (show q = Lib.uvarint l.length ++ putXs l by rw [HQ.out, List.take_length])
      go_wp2
      go_ret
      exact ⟨_, rfl, HE.out _ _ (own_len ho (by rw [HN.out]) (by rw [HN.out])), hfr⟩

set_option maxHeartbeats 8000000 in
set_option maxRecDepth 100000 in
theorem app_8 (l : List Vl) (HO : ∀ x ∈ l, App x) (hall : AllOk l) : App (.mk 8 0 0 [] l) := by
  intro ao cap w0 w m sv xs hX hV hs hf hown hlim
  obtain ⟨i0, hi, hz0, hz1, hz2⟩ := info_parts infoB
  have hsz := hf.size
  have hvn : I64 0 := hV.n
  have hvd : I64 0 := hV.d
  have hne : some w.heap.size ≠ sv.ownBlock := fun e => by
    have := (hown.lt _ e.symm).2
    omega
  have HX := Lib.hid hX
  clear hX
  rw [putX_mk] at hlim ⊢
  rw [List.length_cons] at hlim
  unfold vlv
  simp only [Vl.kd, Vl.nn, Vl.dd, Vl.ss, Vl.ll]
  have e0 : tailX 8 0 0 [] l = Lib.uvarint l.length ++ putXs l := by unfold tailX; simp
  rw [e0] at hlim ⊢
  clear e0
  have HE := Lib.hid (fun (w' : World) (v' : Value) (o : w'.ownsRow w0.heap.size 5 1 v' (m + 1 + (Lib.uvarint l.length ++ putXs l).length) (xs ++ [.int .u8 8] ++ Lib.byteCells (Lib.uvarint l.length ++ putXs l))) => own_head 8 (by decide) (by decide) o)
  generalize m + ((8 : Int).toNat.toUInt8 :: (Lib.uvarint l.length ++ putXs l)).length = M at HE ⊢
  generalize xs ++ Lib.byteCells ((8 : Int).toNat.toUInt8 :: (Lib.uvarint l.length ++ putXs l)) = XS at HE ⊢
  obtain ⟨p0, q0⟩ : Bx (w.alloc (.cells #[.int .i64 8, .int .i64 0, .int .i64 0, .string (bs []), .slice ao l.length cap] 24)) w.heap.size (.mk 8 0 0 [] l) ao cap ∧ Fuw w (w.alloc (.cells #[.int .i64 8, .int .i64 0, .int .i64 0, .string (bs []), .slice ao l.length cap] 24)) := ⟨(bx1 w (.mk 8 0 0 [] l) ao cap).1, (bx1 w (.mk 8 0 0 [] l) ao cap).2.b⟩
  have hown1 := hown.alloc (.cells #[.int .i64 8, .int .i64 0, .int .i64 0, .string (bs []), .slice ao l.length cap] 24)
  obtain ⟨W1, hW⟩ : ∃ W1, w.alloc (.cells #[.int .i64 8, .int .i64 0, .int .i64 0, .string (bs []), .slice ao l.length cap] 24) = W1 := ⟨_, rfl⟩
  rw [hW] at p0 q0 hown1
  have HW := Lib.hid hW
  clear hW
  go_enter Tryd.func39, Tryd.ntmps39
  go_upto_region 1 with fail
  rw [HW.out]
  have hsz1 := p0.lt
  have f1 : Fuw w0 W1 := Fuw.trans hf q0
  obtain ⟨c0, c1, c2, c3, c4⟩ : _ ∧ _ ∧ _ ∧ _ ∧ _ := ⟨p0.c0, p0.c1, p0.c2, p0.c3, p0.c4⟩
  simp only [Vl.kd, Vl.nn, Vl.dd, Vl.ss, Vl.ll] at c0 c1 c2 c3 c4
  have hsz2 := f1.size
  clear hown HW
  go_wp2_with (first | fail | (at_builtin; refine wpList_append_own_at _ rfl (.tmp 7) (.tmp 11) 27 rfl w0.heap.size 5 i0 (.int .u8 0) 1 1 Tryd.underlying27 hi hz0 hz1 hz2 rfl (by decide) _ _ _ rfl (hown1.alloc _) ⟨W1.heap.size, 0, none⟩ 1 1 [.int .u8 8] rfl rfl (at_byte _ _ rfl _) (by intro u hu; simp at hu; subst hu; rfl) (by unfold maxLen; omega) (by omega) (by simp; omega) ?_; intro v5 w5 hown5 hgrow h99 hat; clear h99; refine Hid.out ?_))
  refine Lib.hid ?_
  have f5 : Fuw w0 w5 := fuw_app f1 hown1 hgrow
  obtain ⟨k5, l5⟩ := keep_one (w := W1) (by simp) hgrow hat
  have p5 := bx_keep p0 k5 hne
  clear c0 c1 c2 c3 c4 hgrow hat p0 q0 f1 hown1 k5
  obtain ⟨c0, c1, c2, c3, c4⟩ : _ ∧ _ ∧ _ ∧ _ ∧ _ := ⟨p5.c0, p5.c1, p5.c2, p5.c3, p5.c4⟩
  simp only [Vl.kd, Vl.nn, Vl.dd, Vl.ss, Vl.ll] at c0 c1 c2 c3 c4
  have hsz5 := f5.size
  have hne5 : some w.heap.size ≠ v5.ownBlock := fun e => by
    rcases l5 with q | q
    · exact hne (e.trans q)
    · have := q _ e.symm
      omega
  clear hsz1 hsz2
  rw [List.length_append] at hlim
  have hll : l.length ≤ maxLen := Nat.le_trans hs.le hs.max
  unfold maxLen at hll
  have HC := Lib.hid (varint_put2 w0.heap.size (m + 1) l.length (by omega) v5 _ w5 hown5 hsz5 (by omega))
  have hs9 : SlV w0 ao l cap := hs
  have HS := Lib.hid hs9
  clear hs hs9
  have HB := Lib.hid hlim
  clear hown5 hlim
  have hmm : (l.length : Int) < 9223372036854775808 := by omega
  go_wp2_with fail
  go_at_call 34; refine HC.out.mono ?_; rintro e6 w6 ⟨v6, rfl, o6, b6, k6, l6⟩
  have f6 : Fuw w0 w6 := Below.trans f5 b6
  have d4 := (bx_keep p5 k6 hne5).c4
  simp only [Vl.ll] at d4
  have hq : ∃ q : List UInt8, Hid (q = Lib.uvarint l.length ++ putXs (l.take 0)) ∧ w6.ownsRow w0.heap.size 5 1 v6 (m + 1 + q.length) (xs ++ [.int .u8 8] ++ Lib.byteCells q) :=
    ⟨_, rfl, own_len o6 (by simp [putXs_nil]) (by simp [putXs_nil])⟩
  clear HC o6 b6 k6 l6 c0 c1 c2 c3 c4 p5 hne5 l5 f5 hsz5
  go_wp2
  go_loopw [0, 51] (fun ov iv wr => ∃ (i : Nat) (q : List UInt8), iv = .int .i64 i ∧ i ≤ l.length ∧ Hid (q = Lib.uvarint l.length ++ putXs (l.take i)) ∧ wr.ownsRow w0.heap.size 5 1 ov (m + 1 + q.length) (xs ++ [.int .u8 8] ++ Lib.byteCells q) ∧ Fuw w0 wr) (fun _ iv _ => l.length - (RowKit.intOf iv).toNat)
  case atStart =>
    obtain ⟨q, hq1, hq2⟩ := hq
    exact ⟨0, q, rfl, Nat.zero_le _, hq1, hq2, f6⟩
  case round =>
    clear hq d4 f6
    obtain ⟨i, q, rfl, hi', HQ, ho, hfr⟩ := hrel
    by_cases hlt : i < l.length
    · obtain ⟨b, o, rfl, hc⟩ := HS.out.get hlt
      have hy := (VC_of hc).1
      obtain ⟨-, c0, c1, c2, c3, -⟩ := VC_of (VC_onw hfr hc)
      have hmem : l[i] ∈ l := List.getElem_mem hlt
      have hA := HO l[i] hmem
      have hX2 := hall l[i] hmem
      have hbd := putXs_len l i hlt
      have hlq : q.length = (Lib.uvarint l.length).length + (putXs (l.take i)).length := by rw [HQ.out]; simp
      have hbb := HB.out
      have hbq : m + 1 + q.length + (putX l[i]).length ≤ 100000000000000 := by omega
      have HN := Lib.hid (show q ++ putX l[i] = Lib.uvarint l.length ++ putXs (l.take (i + 1)) by rw [HQ.out, putXs_take l i hlt]; simp)
      obtain ⟨a2, k2, hs2, c4⟩ : ∃ a2 k2, SlV w0 a2 l[i].ll k2 ∧ wr.cell? ⟨b, o + i * 5 + 4, none⟩ = some (.slice a2 l[i].ll.length k2) := by
        obtain ⟨_, _, _, _, _, a2, k2, d4, hs2⟩ := VC_of hc
        refine ⟨a2, k2, hs2, ?_⟩
        rw [Below.cell hfr (p := ⟨b, o + i * 5 + 4, none⟩) (by simpa using World.block_lt_of_cell? w0 _ d4)]
        exact d4
      have HA := Lib.hid (fun w' (hf' : Fuw w0 w') (ho' : w'.ownsRow w0.heap.size 5 1 u0 (m + 1 + q.length) (xs ++ [.int .u8 8] ++ Lib.byteCells q)) => hA a2 k2 w0 w' (m + 1 + q.length) u0 _ hX2 hy hs2 hf' ho' hbq)
      obtain ⟨p9, q9⟩ := bx1 wr l[i] a2 k2
      have g9 := q9.b
      have ho9 := ho.alloc (.cells #[.int .i64 l[i].kd, .int .i64 l[i].nn, .int .i64 l[i].dd, .string (bs l[i].ss), .slice a2 l[i].ll.length k2] 24)
      unfold vlv at HA
      clear hA hX2 hbd hlq hbb hbq hs2 hc hmem hy p9 q9 ho
      generalize putX l[i] = px at HN HA
      generalize l[i] = u at *
      have F9 := Lib.hid (Fuw.trans hfr g9)
      clear g9
      go_wp2_with fail
      go_at_call 39; refine (HA.out _ F9.out ho9).mono ?_; rintro e7 w7 ⟨v7, rfl, o7, b7⟩
      have HO7 := Lib.hid (own_len o7 (show m + 1 + q.length + px.length = m + 1 + (q ++ px).length by rw [List.length_append]; omega) (show xs ++ [Value.int .u8 8] ++ Lib.byteCells q ++ Lib.byteCells px = xs ++ [Value.int .u8 8] ++ Lib.byteCells (q ++ px) by rw [Lib.byteCells_append, ← List.append_assoc]))
      clear o7
      go_wp2
      go_roundw
      case rel => exact ⟨i + 1, q ++ px, by go_num, by omega, HN.out, HO7.out, b7⟩
      case measure => simp [RowKit.intOf]; omega
    · have e : i = l.length := by omega
      subst e
      have HN := Lib.hid (show q = Lib.uvarint l.length ++ putXs l by rw [HQ.out, List.take_length])
      go_wp2
      go_ret
      exact ⟨_, rfl, HE.out _ _ (own_len ho (by rw [HN.out]) (by rw [HN.out])), hfr⟩

/-- appendValue, for every valid value. -/
theorem app_all : ∀ v : Vl, App v
  | .mk k n d s l => by
    have HO : ∀ x ∈ l, App x := fun x hx => app_all x
    intro ao cap w0 w m sv xs hX hV hs hf hown hlim
    rcases kinds hX with ⟨rfl, rfl, rfl, rfl, rfl⟩ | ⟨rfl, -, rfl, rfl, rfl⟩ | ⟨rfl, -, rfl, rfl, rfl⟩ | ⟨rfl, -, -, rfl, rfl⟩ | ⟨rfl, rfl, rfl, rfl⟩ | ⟨rfl, -, rfl, rfl, rfl⟩ | ⟨rfl, -, rfl, rfl, rfl⟩ | ⟨rfl, rfl, rfl, rfl, hall⟩ | ⟨rfl, rfl, rfl, rfl, hall⟩
    · exact app_0 ao cap w0 w m sv xs hX hV hs hf hown hlim
    · exact app_1 n ao cap w0 w m sv xs hX hV hs hf hown hlim
    · exact app_2 n ao cap w0 w m sv xs hX hV hs hf hown hlim
    · exact app_3 n d ao cap w0 w m sv xs hX hV hs hf hown hlim
    · exact app_4 s ao cap w0 w m sv xs hX hV hs hf hown hlim
    · exact app_5 n ao cap w0 w m sv xs hX hV hs hf hown hlim
    · exact app_6 n ao cap w0 w m sv xs hX hV hs hf hown hlim
    · exact app_7 l HO hall ao cap w0 w m sv xs hX hV hs hf hown hlim
    · exact app_8 l HO hall ao cap w0 w m sv xs hX hV hs hf hown hlim
termination_by v => SizeOf.sizeOf v
decreasing_by
  have := List.sizeOf_lt_of_mem hx
  simp
  omega
theorem rety_of {w : World} {l m : List UInt8} {e : Ending} {w' : World} (h : l = m) (k : RetY w m e w') : RetY w l e w' := by rw [h]; exact k
/-- What PutValue gives. -/
def putVal (v : Vl) : List UInt8 := if okX v = true then putX v else []
set_option maxHeartbeats 8000000 in
set_option maxRecDepth 100000 in
theorem put_value (v : Vl) (ao : Option Addr) (cap : Nat) (w : World) (hV : Vin v) (hs : SlV w ao v.ll cap) (hlen : okX v = true → (putX v).length ≤ 100000000000000) :
    Calls Tryd.prog 16 #[vlv v ao cap] w (RetY w (putVal v)) := by
  obtain ⟨p0, q0⟩ := bx1 w v ao cap
  have HL := Lib.hid (fun w' (hf : Fuw w w') => lvalid_any v ao cap w' hV (hs.onw hf))
  have HA := Lib.hid (fun (w' : World) (hf : Fuw w w') (hX : okX v = true) => app_all v ao cap w' w' 0 (.slice none 0 0) [] hX hV (hs.onw hf) (Fuw.refl _) (World.ownsRow_nil _ _ _ _) (by have := hlen hX; omega))
  unfold vlv at *
  obtain ⟨W1, hW⟩ : ∃ W1, w.alloc (.cells #[.int .i64 v.kd, .int .i64 v.nn, .int .i64 v.dd, .string (bs v.ss), .slice ao v.ll.length cap] 24) = W1 := ⟨_, rfl⟩
  rw [hW] at p0 q0
  have HW := Lib.hid hW
  have f0 := q0.b
  have HP := Lib.hid (show ∀ b, okX v = b → putVal v = if b = true then putX v else [] from fun b hb => by unfold putVal; rw [hb])
  clear hW q0 hs hlen
  obtain ⟨b, hb⟩ : ∃ b, okX v = b := ⟨_, rfl⟩
  have HB := Lib.hid hb
  rw [hb] at HL HA
  have HR := Lib.hid (HP.out b hb)
  clear HP hb
  generalize putVal v = R at HR ⊢
  generalize putX v = px at HA HR
  cases b
  · have HE := Lib.hid (show R = [] from HR.out)
    go_enter Tryd.func16, Tryd.ntmps16
    go_upto_region 1 with fail
    rw [HW.out]
    obtain ⟨c0, c1, c2, c3, c4⟩ : _ ∧ _ ∧ _ ∧ _ ∧ _ := ⟨p0.c0, p0.c1, p0.c2, p0.c3, p0.c4⟩
    clear HW p0
    go_wp2_with fail
    go_at_call 38; refine (HL.out _ f0).mono ?_; rintro e1 w1 ⟨rfl, f1⟩
    go_wp2
    go_ret
    exact rety_of HE.out ⟨none, 0, rfl, IsB.empty _, Fuw.trans f0 f1.b⟩
  · have HE := Lib.hid (show R = px from HR.out)
    go_enter Tryd.func16, Tryd.ntmps16
    go_upto_region 1 with fail
    rw [HW.out]
    obtain ⟨c0, c1, c2, c3, c4⟩ : _ ∧ _ ∧ _ ∧ _ ∧ _ := ⟨p0.c0, p0.c1, p0.c2, p0.c3, p0.c4⟩
    clear HW
    go_wp2_with fail
    go_at_call 38; refine (HL.out _ f0).mono ?_; rintro e1 w1 ⟨rfl, f1⟩
    have p1 := p0.onw f1.b
    have f2 := Fuw.trans f0 f1.b
    clear c0 c1 c2 c3 c4 p0 f0 f1
    obtain ⟨c0, c1, c2, c3, c4⟩ : _ ∧ _ ∧ _ ∧ _ ∧ _ := ⟨p1.c0, p1.c1, p1.c2, p1.c3, p1.c4⟩
    go_wp2_with fail
    go_at_call 39; refine (HA.out _ f2 (by simp)).mono ?_; rintro e2 w2 ⟨v2, rfl, o2, f3⟩
    rw [List.nil_append] at o2
    obtain ⟨a3, k3, rfl, -, hI⟩ := IsB.of_own o2
    have HC := Lib.hid (closed_any a3 px k3 w2 hI)
    clear o2 hI p1 c0 c1 c2 c3 c4
    go_wp2_with fail
    go_at_call 33; refine HC.out.mono ?_; rintro e3 w3 ⟨a4, k4, rfl, hI4, f4⟩
    have HI4 := Lib.hid hI4
    clear hI4
    go_wp2
    go_ret
    exact rety_of HE.out ⟨a4, k4, rfl, HI4.out, Fuw.trans f2 (Fuw.trans f3 f4)⟩
end Go.Proofs.YtolkdmhjomampaaDoor
