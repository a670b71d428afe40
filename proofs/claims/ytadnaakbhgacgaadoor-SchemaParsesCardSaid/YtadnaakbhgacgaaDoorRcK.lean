/-
  The reference of package schema: a text split at its single spaces (words). Nothing that was there turns.
-/
import Derived.Test.YtadnaakbhgacgaaDoorScK
namespace Go.Proofs.YtadnaakbhgacgaaDoor
open Go.RowKit

theorem run_slice_str {P : Program} {t : TypeId} (ht : P.underlying t = some .string) (s : ByteArray) (i j : Nat) (h : i ≤ j) (hj : j ≤ s.size) (w : World) :
    (Instr.slice t (.string s) (some (.int .i64 i)) (some (.int .i64 j)) none).run P w = .ok (.string (s.extract i j)) w := by
  have h1 : (i : Int) ≤ (j : Int) := by omega
  have h2 : (j : Int) ≤ (s.size : Int) := by omega
  simp [Instr.slice, Instr.sliceBounds, Instr.sliceBound, run_underlying ht, asIntOf, h, hj]

/-- A text split at its spaces. -/
def spl : List UInt8 → List (List UInt8)
  | [] => [[]]
  | c :: t => if c = 32 then [] :: spl t else match spl t with
    | [] => [[c]]
    | x :: r => (c :: x) :: r
theorem spl_c (c : UInt8) (t : List UInt8) : spl (c :: t) = if c = 32 then [] :: spl t else match spl t with | [] => [[c]] | x :: r => (c :: x) :: r := rfl
theorem spl_ne : ∀ l, ∃ x r, spl l = x :: r
  | [] => ⟨_, _, rfl⟩
  | c :: t => by
    obtain ⟨x, r, h⟩ := spl_ne t
    unfold spl
    split
    · exact ⟨_, _, rfl⟩
    · rw [h]; exact ⟨_, _, rfl⟩
theorem spl_one : ∀ {x : List UInt8}, NoSp x → spl x = [x]
  | [], _ => rfl
  | c :: t, h => by
    have h1 : ¬ c = 32 := by have := h c (List.mem_cons_self ..); simpa using this
    unfold spl
    rw [if_neg h1, spl_one (fun d hd => h d (List.mem_cons_of_mem _ hd))]
theorem spl_app : ∀ {x : List UInt8} (_ : NoSp x) (y : List UInt8), spl (x ++ 32 :: y) = x :: spl y
  | [], _, y => by show spl (32 :: y) = _; rw [spl_c, if_pos rfl]
  | c :: t, h, y => by
    have h1 : ¬ c = 32 := by have := h c (List.mem_cons_self ..); simpa using this
    show spl (c :: (t ++ 32 :: y)) = _
    rw [spl_c, if_neg h1, spl_app (fun d hd => h d (List.mem_cons_of_mem _ hd)) y]
def wordsV (s : List UInt8) : List (List UInt8) := if 200 < s.length then [] else spl s
theorem sp_end {l : List UInt8} {a : Nat} (_ha : a ≤ l.length) (h : NoSp ((l.take l.length).drop a)) {L : List (List UInt8)} (hL : L ++ spl (l.drop a) = spl l) : L ++ [(l.take l.length).drop a] = spl l := by
  rw [List.take_length] at h ⊢
  rw [← hL, spl_one h]
theorem sp_cut {l : List UInt8} {a i : Nat} (ha : a ≤ i) (hi : i < l.length) (hc : l[i] = 32) (h : NoSp ((l.take i).drop a)) {L : List (List UInt8)} (hL : L ++ spl (l.drop a) = spl l) : (L ++ [(l.take i).drop a]) ++ spl (l.drop (i + 1)) = spl l := by
  have e : l.drop a = (l.take i).drop a ++ 32 :: l.drop (i + 1) := by
    have e1 : l = l.take i ++ 32 :: l.drop (i + 1) := by
      rw [← hc, ← List.drop_eq_getElem_cons hi, List.take_append_drop]
    conv => lhs; rw [e1]
    rw [List.drop_append_of_le_length (by rw [List.length_take]; omega)]
  rw [← hL, e, spl_app h]; simp
theorem sp_go {l : List UInt8} {a i : Nat} (ha : a ≤ i) (hi : i < l.length) (hc : l[i] ≠ 32) (h : NoSp ((l.take i).drop a)) : NoSp ((l.take (i + 1)).drop a) := by
  rw [List.take_succ_eq_append_getElem hi, List.drop_append_of_le_length (by rw [List.length_take]; omega)]
  intro c hcm
  rcases List.mem_append.1 hcm with h1 | h1
  · exact h c h1
  · rw [List.mem_singleton] at h1; subst h1; simpa using hc
theorem one_str (w : World) (x : List UInt8) : ∀ j u, [Value.string (bs x)][j]? = some u → (w.alloc (.cells #[.string (bs x)] 9)).cell? ((⟨w.heap.size, 0, none⟩ : Addr).add j) = some u := fun j u hu => by
  obtain rfl : j = 0 := by
    rcases j with _ | j
    · rfl
    · simp at hu
  have e : u = .string (bs x) := by simpa using hu.symm
  subst e
  exact (Bk.new w #[.string (bs x)] 9).c 0
/-- A built slice of one string, appended to a row of the call's own. -/
theorem app_str (w0 w : World) (v : Value) (L : List (List UInt8)) (n : Nat) (hn : L.length = n) (x : List UInt8) (y : ByteArray) (hy : y = bs x) (hf : Fuw w0 w) (hown : w.ownsRow w0.heap.size 9 1 v n (sC L)) (hl : n ≤ 1000) :
    ∃ v' w', (Builtin.append_ #[47, 47] 47 #[v, .slice (some ⟨w.heap.size, 0, none⟩) 1 1]).run Tryd.prog (w.alloc (.cells #[.string y] 9)) = .ok v' w' ∧ w'.ownsRow w0.heap.size 9 1 v' (n + 1) (sC (L ++ [x])) ∧ Fuw w0 w' := by
  subst hn hy
  obtain ⟨i0, hi, hz0, hz1, hz2⟩ := info_parts infoS
  have ho := own_on hown (fuwA w (.cells #[.string (bs x)] 9))
  obtain ⟨v', w', hr, h2, h3, _⟩ := run_append_own (P := Tryd.prog) (w.alloc (.cells #[.string (bs x)] 9)) w0.heap.size 47 47 9 i0 _ 1 16 Tryd.underlying47 hi hz0 hz1 hz2 rfl (by decide) v L.length (sC L) ho ⟨w.heap.size, 0, none⟩ 1 1 [.string (bs x)] rfl (one_str w x) (oneS [x]) (by unfold maxLen; omega) (by omega) (by rw [asz]; have := hf.size; omega)
  refine ⟨v', w', hr, by rw [sC_app]; exact h2, ?_⟩
  exact Below.grown (hf.alloc _) h3 (by rw [asz]; have := hf.size; omega) (fun k hk => (ho.lt k hk).1)
theorem bs_extract' (s : List UInt8) (a b : Nat) : (bs s).extract a b = bs ((s.take b).drop a) := by
  apply ByteArray.ext
  show ((bs s).extract a b).data = ((s.take b).drop a).toArray
  rw [ByteArray.data_extract]
  apply Array.ext'
  simp [bs, List.drop_take]
theorem ext_bs (s : ByteArray) (a b : Nat) : s.extract a b = bs ((s.data.toList.take b).drop a) := by
  conv => lhs; rw [bs_of s]
  rw [bs_extract']
def RetW (w : World) (L : List (List UInt8)) (e : Ending) (w' : World) : Prop := ∃ v, e = .returned v ∧ w'.ownsRow w.heap.size 9 1 v L.length (sC L) ∧ Fuw w w'
set_option maxHeartbeats 6400000 in
set_option maxRecDepth 100000 in
theorem rwords (s : ByteArray) (hs : s.size ≤ maxLen) (w : World) : Calls Tryd.prog 46 #[.string s] w (RetW w (wordsV s.data.toList)) := by
  unfold maxLen at hs
  have hsz : s.data.toList.length = s.size := Array.length_toList
  by_cases hl : 200 < s.size
  · have HE := Lib.hid (show wordsV s.data.toList = [] by unfold wordsV; rw [if_pos (by omega)])
    have hlI : 200 < (s.size : Int) := by omega
    clear hl hsz
    go_enter Tryd.func46, Tryd.ntmps46
    go_wp2
    go_ret
    exact ⟨_, rfl, by rw [HE.out]; exact World.ownsRow_nil _ _ _ _, Fuw.refl _⟩
  · have HE := Lib.hid (show wordsV s.data.toList = spl s.data.toList by unfold wordsV; rw [if_neg (by omega)])
    have hlI : ¬ 200 < (s.size : Int) := by omega
    have HSZ := Lib.hid hsz
    clear hsz
    go_enter Tryd.func46, Tryd.ntmps46
    go_wp2
    go_loopw [3, 4, 5] (fun ov av iv wr => ∃ (L : List (List UInt8)) (a i n : Nat), av = .int .i64 a ∧ iv = .int .i64 i ∧ a ≤ i ∧ i ≤ s.size + 1 ∧ n ≤ i ∧ Hid (L.length = n) ∧ Hid (wr.ownsRow w.heap.size 9 1 ov n (sC L)) ∧ Hid (Fuw w wr) ∧ Hid (i ≤ s.size → L ++ spl (s.data.toList.drop a) = spl s.data.toList ∧ NoSp ((s.data.toList.take i).drop a)) ∧ Hid (s.size < i → L = spl s.data.toList)) (fun _ _ iv _ => s.size + 1 - (RowKit.intOf iv).toNat)
    case atStart => exact ⟨[], 0, 0, 0, rfl, rfl, Nat.le_refl _, by omega, Nat.le_refl _, Lib.hid rfl, Lib.hid (World.ownsRow_nil _ _ _ _), Lib.hid (Fuw.refl _), Lib.hid fun _ => ⟨by simp, fun c hc => by simp at hc⟩, Lib.hid fun h => absurd h (by omega)⟩
    case round =>
      obtain ⟨L, a, i, n, rfl, rfl, hai, hi, hn, HL, hown, hf, HM, HD⟩ := hrel
      by_cases hle : i ≤ s.size
      · have hsl := run_slice_str (P := Tryd.prog) Tryd.underlying9 s a i hai hle
        have hM := HM.out hle
        obtain ⟨v', w', hr, ho, hf'⟩ := app_str w wr _ L n HL.out ((s.data.toList.take i).drop a) _ (ext_bs s a i) hf.out hown.out (by omega)
        have HR := Lib.hid hr
        have HO := Lib.hid ho
        have HF := Lib.hid hf'
        have HL2 := Lib.hid (show (L ++ [(s.data.toList.take i).drop a]).length = n + 1 by rw [List.length_append, HL.out]; rfl)
        clear hr ho hf'
        by_cases heq : i = s.size
        · have HDn := Lib.hid (show L ++ [(s.data.toList.take i).drop a] = spl s.data.toList from by
            have e := HSZ.out
            rw [heq, ← e]
            refine sp_end (by omega) ?_ hM.1
            rw [e, ← heq]; exact hM.2)
          have he : ((i : Int) == (s.size : Int)) = true := by rw [heq]; simp
          have he2 : (i : Int) ≤ (s.size : Int) := by omega
          have hge : s.size ≤ i := by omega
          clear hM HM HD heq
          go_wp2_with (at_builtin; refine Lib.wpList_append_run _ rfl _ _ _ _ rfl _ _ rfl rfl _ _ HR.out ?_)
          go_roundw
          case rel => exact ⟨_, i + 1, i + 1, n + 1, by go_num, by go_num, Nat.le_refl _, by omega, by omega, HL2, HO, HF, Lib.hid fun h => absurd h (by omega), Lib.hid fun _ => HDn.out⟩
          case measure => simp [RowKit.intOf]; omega
        · have hlt : i < s.size := by omega
          have he : ((i : Int) == (s.size : Int)) = false := by rw [beq_eq_false_iff_ne]; omega
          have he2 : (i : Int) ≤ (s.size : Int) := by omega
          have hltL : i < s.data.toList.length := by rw [HSZ.out]; exact hlt
          have hgi : s.data.toList[i] = (s[i]'hlt) := rfl
          by_cases hc : (s[i]'hlt) = 32
          · have HDn := Lib.hid (sp_cut hai hltL (hgi.trans hc) hM.2 hM.1)
            have hcI : (((s[i]'hlt).toNat : Int) == 32) = true := by rw [hc]; rfl
            clear hM HM HD heq hgi hc hltL
            go_wp2_with (at_builtin; refine Lib.wpList_append_run _ rfl _ _ _ _ rfl _ _ rfl rfl _ _ HR.out ?_)
            go_roundw
            case rel => exact ⟨_, i + 1, i + 1, n + 1, by go_num, by go_num, Nat.le_refl _, by omega, by omega, HL2, HO, HF, Lib.hid fun _ => ⟨HDn.out, fun c hc => by
              rw [List.drop_of_length_le (by rw [List.length_take]; omega)] at hc; cases hc⟩, Lib.hid fun h => absurd h (by omega)⟩
            case measure => simp [RowKit.intOf]; omega
          · have HDn := Lib.hid (sp_go hai hltL (fun h => hc (hgi.symm.trans h)) hM.2)
            have HDm := Lib.hid hM.1
            have hcI : (((s[i]'hlt).toNat : Int) == 32) = false := by
              rw [beq_eq_false_iff_ne]; intro h; exact hc (UInt8.toNat_inj.1 (by show (s[i]'hlt).toNat = 32; omega))
            clear hM HM HD heq hgi hc hltL HR HO HF HL2
            go_wp2
            go_roundw
            case rel => exact ⟨L, a, i + 1, n, rfl, by go_num, by omega, by omega, by omega, HL, hown, hf, Lib.hid fun _ => ⟨HDm.out, HDn.out⟩, Lib.hid fun h => absurd h (by omega)⟩
            case measure => simp [RowKit.intOf]; omega
      · have HDn := Lib.hid (HD.out (by omega))
        have he2 : ¬ (i : Int) ≤ (s.size : Int) := by omega
        clear HM HD
        go_wp2
        go_ret
        exact ⟨_, rfl, by rw [HE.out, ← HDn.out, HL.out]; exact hown.out, hf.out⟩
end Go.Proofs.YtadnaakbhgacgaaDoor
