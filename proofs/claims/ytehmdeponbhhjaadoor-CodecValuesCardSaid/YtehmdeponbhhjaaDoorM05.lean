/-
  CdC; CdD: texts of one kind in one file; each part says what it holds.
-/
import Derived.Test.YtehmdeponbhhjaaDoorCdMem
import Derived.Lib.Hide
import Derived.Lib.EndianBits
import Derived.Deep.Cut
import Derived.Test.YtehmdeponbhhjaaDoorCdA
import Derived.Laws.IdiomCopy
import Derived.Lib.FrozenHead
import Derived.Lib.Builder

/-! Package codec and its reference: Sum of every slice of bytes is its CRC-32. Condition of package codec's: the table of halves of a byte reads as its initialiser lays it (Good5). Nothing turns. -/
namespace Go.Proofs.YtehmdeponbhhjaaDoor
open Go.RowKit

/-- The table lies as its initialiser lays it. -/
structure Good5 (w : World) : Prop where
  lt : 0 < w.heap.size
  at_ : ∀ j, j < 16 → w.cell? ⟨0, j, none⟩ = some (.int .u32 ((halfs.getD j 0 : Nat) : Int))
theorem Good5.on {w w' : World} (h : Good5 w) (hf : Fuw w w') : Good5 w' :=
  ⟨Nat.lt_of_lt_of_le h.lt hf.size, fun j hj => (Below.cell hf (p := ⟨0, j, none⟩) h.lt).trans (h.at_ j hj)⟩
theorem xor32 (a b : Nat) (ha : a < 4294967296) (hb : b < 4294967296) : bits .xor .u32 (a : Int) (b : Int) = ((a ^^^ b : Nat) : Int) := by
  show IntKind.u32.wrap ((BitVec.ofInt 32 (a : Int) ^^^ BitVec.ofInt 32 (b : Int)).toNat : Int) = _
  have h1 : (BitVec.ofInt 32 (a : Int)).toNat = a := by
    rw [BitVec.ofInt_natCast, BitVec.toNat_ofNat]; exact Nat.mod_eq_of_lt (by omega)
  have h2 : (BitVec.ofInt 32 (b : Int)).toNat = b := by
    rw [BitVec.ofInt_natCast, BitVec.toNat_ofNat]; exact Nat.mod_eq_of_lt (by omega)
  rw [BitVec.toNat_xor, h1, h2]
  have := xor_lt ha hb
  rw [IntKind.wrap_u32]; omega
theorem and15 (a : Nat) (ha : a < 4294967296) : bits .and .u32 (a : Int) 15 = ((a % 16 : Nat) : Int) := by
  have h := bits_mask .u32 32 (by decide) wraps_u32 4 (by decide) (a : Int) (by omega) (by omega)
  rw [show ((2 : Int) ^ 4 - 1) = 15 by decide] at h
  rw [h]; omega
theorem halfs_lt : ∀ j : Fin 16, halfs.getD j.val 0 < 4294967296 := by decide
/-- Half a byte's step. -/
theorem half_step {w : World} (G : Good5 w) {c : Nat} (hc : c < 4294967296) : ∃ k t n : Nat, k < 16 ∧ bits .and .u32 (c : Int) 15 = (k : Int) ∧ w.cell? ⟨0, k, none⟩ = some (.int .u32 (t : Int)) ∧ bits .xor .u32 ((c : Int) / 16) (t : Int) = (n : Int) ∧ n < 4294967296 ∧ n = nib c := by
  refine ⟨c % 16, halfs.getD (c % 16) 0, nib c, Nat.mod_lt _ (by decide), and15 c hc, G.at_ _ (Nat.mod_lt _ (by decide)), ?_, nib_lt hc, rfl⟩
  have h := halfs_lt ⟨c % 16, Nat.mod_lt _ (by decide)⟩
  have k := xor32 (c / 16) (halfs.getD (c % 16) 0) (by omega) h
  rw [show ((c / 16 : Nat) : Int) = (c : Int) / 16 by omega] at k
  exact k
theorem crc_take {l : List UInt8} {i c x : Nat} (hi : i < l.length) (hx : (l.getD i 0).toNat = x) (hc : c = crcR 4294967295 (l.take i)) : cbits 8 (c ^^^ x) = crcR 4294967295 (l.take (i + 1)) := by
  rw [List.take_succ_eq_append_getElem hi, crcR_snoc, ← hc, ← byte_at hi, hx]; rfl
set_option maxHeartbeats 8000000 in
set_option maxRecDepth 100000 in
theorem sum_is (ao : Option Addr) (l : List UInt8) (cap : Nat) (w : World) (h : IsB w ao l cap) (G : Good5 w) :
    Calls Tryd.prog 13 #[.slice ao l.length cap] w fun e w' => e = .returned (.int .i64 (crc l : Nat)) ∧ w = w' := by
  have hlen := h.len.1
  have HG := Lib.hid G
  have HI := Lib.hid h
  clear h G
  go_enter Tryd.func13, Tryd.ntmps13
  go_wp2
  go_loop [3, 8] (fun v ii => ∃ i c : Nat, ii = .int .i64 i ∧ i ≤ l.length ∧ v = .int .u32 c ∧ c < 4294967296 ∧ Hid (c = crcR 4294967295 (l.take i))) (fun _ ii => l.length - (RowKit.intOf ii).toNat)
  case atStart => exact ⟨0, 4294967295, rfl, Nat.zero_le _, rfl, by decide, rfl⟩
  case round =>
    obtain ⟨i, c, rfl, hi, rfl, hc, HD⟩ := hrel
    by_cases hlt : i < l.length
    · obtain ⟨b, off, rfl, hb, hcc⟩ := HI.out.at_ (by omega)
      have hck := hcc i hlt
      have hcl : (l.getD i 0).toNat < 256 := (l.getD i 0).toNat_lt
      obtain ⟨x, hx⟩ : ∃ x, (l.getD i 0).toNat = x := ⟨_, rfl⟩
      have HN := Lib.hid (crc_take hlt hx HD.out)
      rw [hx] at hck hcl
      clear hcc hx
      have hx1 := xor32 c x hc (by omega)
      have hc1 := xor_lt hc (show x < 4294967296 by omega)
      generalize c ^^^ x = c1 at *
      obtain ⟨k1, t1, n1, hk1, ha1, hl1, hn1, hb1, e1⟩ := half_step HG.out hc1
      obtain ⟨k2, t2, n2, hk2, ha2, hl2, hn2, hb2, e2⟩ := half_step HG.out hb1
      have HE := Lib.hid (show n2 = crcR 4294967295 (l.take (i + 1)) by rw [← HN.out, e2, e1, nib_two])
      clear e1 e2 HN
      go_wp2
      go_round
      case rel => exact ⟨i + 1, n2, by go_num, by omega, rfl, hb2, HE.out⟩
      case measure => simp [RowKit.intOf]; omega
    · have e : i = l.length := by omega
      subst e
      have HE := Lib.hid (show crc l = c ^^^ 4294967295 by unfold crc; rw [HD.out, List.take_of_length_le (Nat.le_refl _)])
      have hx1 := xor32 c 4294967295 hc (by decide)
      have hb2 := xor_lt hc (show 4294967295 < 4294967296 by decide)
      generalize c ^^^ 4294967295 = c1 at *
      rw [show ((4294967295 : Nat) : Int) = 4294967295 from rfl] at hx1
      go_wp2
      go_ret
      exact ⟨ret_int (by rw [HE.out]), rfl⟩

theorem cbits_succ (k c : Nat) : cbits (k + 1) c = cbit (cbits k c) := by
  induction k generalizing c with
  | zero => rfl
  | succ n ih =>
    show cbits (n + 1) (cbit c) = cbit (cbits n (cbit c))
    exact ih (cbit c)
/-- A slice laid from four bytes. -/
theorem IsB.four {w : World} {g : Nat} {a b c d : Nat} {t : TypeId} {f : Nat × Nat} (ha : a < 256) (hb : b < 256) (hc : c < 256) (hd : d < 256) (h : w.heap[g]? = some (.cells #[.int .u8 (a : Int), .int .u8 (b : Int), .int .u8 (c : Int), .int .u8 (d : Int)] t f)) :
    IsB w (some ⟨g, 0, none⟩) [a.toUInt8, b.toUInt8, c.toUInt8, d.toUInt8] 4 := by
  refine ⟨Nat.le_refl _, by decide, (fun e => by cases e), fun _ => ⟨g, 0, rfl, ?_, fun j hj => ?_⟩⟩
  · rcases Nat.lt_or_ge g w.heap.size with k | k
    · exact k
    · rw [Array.getElem?_eq_none k] at h; cases h
  · have hj' : j = 0 ∨ j = 1 ∨ j = 2 ∨ j = 3 := by simp at hj; omega
    unfold World.cell?
    rcases hj' with rfl | rfl | rfl | rfl
    · rw [show ([a.toUInt8, b.toUInt8, c.toUInt8, d.toUInt8].getD 0 0).toNat = a from Lib.toUInt8_toNat ha]; simp [h]
    · rw [show ([a.toUInt8, b.toUInt8, c.toUInt8, d.toUInt8].getD 1 0).toNat = b from Lib.toUInt8_toNat hb]; simp [h]
    · rw [show ([a.toUInt8, b.toUInt8, c.toUInt8, d.toUInt8].getD 2 0).toNat = c from Lib.toUInt8_toNat hc]; simp [h]
    · rw [show ([a.toUInt8, b.toUInt8, c.toUInt8, d.toUInt8].getD 3 0).toNat = d from Lib.toUInt8_toNat hd]; simp [h]
theorem put_sum (s : Nat) (w : World) : Calls Tryd.prog 24 #[.int .i64 s] w (RetY w (le4 s)) := by
  have h0 : IntKind.u8.wrap (s : Int) = ((s % 256 : Nat) : Int) := by rw [IntKind.wrap_u8]; omega
  have h1 : IntKind.u8.wrap ((s : Int) / 256) = ((s / 256 % 256 : Nat) : Int) := by rw [IntKind.wrap_u8]; omega
  have h2 : IntKind.u8.wrap ((s : Int) / 65536) = ((s / 65536 % 256 : Nat) : Int) := by rw [IntKind.wrap_u8]; omega
  have h3 : IntKind.u8.wrap ((s : Int) / 16777216) = ((s / 16777216 % 256 : Nat) : Int) := by rw [IntKind.wrap_u8]; omega
  have a0 : s % 256 < 256 := by omega
  have a1 : s / 256 % 256 < 256 := by omega
  have a2 : s / 65536 % 256 < 256 := by omega
  have a3 : s / 16777216 % 256 < 256 := by omega
  unfold le4
  generalize s % 256 = x0 at *
  generalize s / 256 % 256 = x1 at *
  generalize s / 65536 % 256 = x2 at *
  generalize s / 16777216 % 256 = x3 at *
  go_enter Tryd.func24, Tryd.ntmps24
  go_wp2
  go_ret
  refine ⟨_, _, rfl, IsB.four (t := 5) (f := (0, 0)) a0 a1 a2 a3 ?_, (Fuw.refl w).alloc _⟩
  show (w.heap.push _)[w.heap.size]? = _
  rw [Array.getElem?_push, if_pos rfl]
end Go.Proofs.YtehmdeponbhhjaaDoor

/-! Package codec: Frame of every slice of bytes is its frame; nothing that was there turns. Condition: the table of halves of a byte reads as its initialiser lays it (Good5). -/
namespace Go.Proofs.YtehmdeponbhhjaaDoor
open Go.RowKit

/-- A block that may be written, holding these bytes from its beginning. -/
structure OutB (w : World) (g : Nat) (L : List UInt8) : Prop where
  lt : g < w.heap.size
  at_ : ∀ j, j < L.length → w.cell? ⟨g, j, none⟩ = some (.int .u8 ((L.getD j 0).toNat : Int))
  fr : ∀ j, j < L.length → w.frozen? ⟨g, j, none⟩ = false
theorem OutB.on {w w' : World} {g : Nat} {L : List UInt8} (h : OutB w g L) (hf : Fuw w w') : OutB w' g L :=
  ⟨Nat.lt_of_lt_of_le h.lt hf.size, fun j hj => (Below.cell hf (p := ⟨g, j, none⟩) h.lt).trans (h.at_ j hj), fun j hj => by
    rw [← h.fr j hj]
    unfold World.frozen?
    rw [Below.block hf g h.lt]⟩
theorem OutB.isB {w : World} {g cap : Nat} {L : List UInt8} (h : OutB w g L) (hc : L.length ≤ cap) (hm : cap ≤ maxLen) : IsB w (some ⟨g, 0, none⟩) L cap :=
  ⟨hc, hm, (fun e => by cases e), fun _ => ⟨g, 0, rfl, h.lt, fun j hj => by rw [Nat.zero_add]; exact h.at_ j hj⟩⟩
theorem fuw_cells {W : World} (g : Nat) (hg : W.heap.size ≤ g) : ∀ (vs : List Value) (o : Nat) (w : World), Fuw W w → Fuw W (w.setCells g o vs)
  | [], _, _, h => h
  | v :: r, o, w, h => by
    rw [World.setCells]
    exact fuw_cells g hg r (o + 1) _ (Below.setCell h hg v)
theorem heap_setCells (g : Nat) : ∀ (vs : List Value) (o : Nat) (w : World), (w.setCells g o vs).heap.size = w.heap.size
  | [], _, _ => rfl
  | v :: r, o, w => by
    rw [World.setCells, heap_setCells g r (o + 1)]
    exact World.size_setCell ..
/-- copy into such a block. -/
theorem run_copyB {w : World} {ao : Option Addr} {l : List UInt8} {cap : Nat} (h : IsB w ao l cap) {g o dLen dCap : Nat} {L : List UInt8} (hO : OutB w g L) (h1 : o + l.length ≤ L.length) (h2 : l.length ≤ dLen) :
    ∃ w', (∀ ty, (Builtin.copy_ #[22, 22] ty #[.slice (some ⟨g, o, none⟩) dLen dCap, .slice ao l.length cap]).run Tryd.prog w = .ok (.int .i64 (l.length : Int)) w') ∧ OutB w' g (L.take o ++ l ++ L.drop (o + l.length)) ∧ ∀ W, Fuw W w → W.heap.size ≤ g → Fuw W w' := by
  have hs : (Tryd.prog.info? 5).map (·.size) = some 1 := by kernel_rfl
  have hlc := Lib.byteCells_length l
  have hin := World.cell?_setCells_in g (Lib.byteCells l) o w (fun j hj => by rw [hO.at_ _ (by omega)]; rfl)
  refine ⟨w.setCells g o (Lib.byteCells l), fun ty => ?_, ⟨?_, fun j hj => ?_, fun j hj => ?_⟩, fun W hW hg => fuw_cells g hg _ _ _ hW⟩
  · by_cases hp : 0 < l.length
    · obtain ⟨b, off, rfl, hb, hc⟩ := h.at_ hp
      have k := run_copy_cells (P := Tryd.prog) w 22 22 ty 5 g o dLen dCap ⟨b, off, none⟩ l.length cap (Lib.byteCells l) Tryd.underlying22 hs (by rw [hlc]; exact (Nat.min_eq_left h2).symm)
        (fun j v hj => by
          have hjl : j < l.length := by
            rcases Nat.lt_or_ge j l.length with t | t
            · exact t
            · rw [List.getElem?_eq_none (by rw [hlc]; exact t)] at hj; cases hj
          rw [byteCells_get hjl] at hj
          rw [Go.WideShapes.add_plain, hc j hjl]
          exact hj)
        (fun j hj => by rw [hO.at_ _ (by omega)]; rfl) (fun j hj => hO.fr _ (by omega))
        (fun v hv => by
          unfold Lib.byteCells at hv
          obtain ⟨c, -, rfl⟩ := List.mem_map.1 hv
          rfl)
      rw [k, hlc]; rfl
    · have e : l = [] := List.length_eq_zero_iff.1 (by omega)
      subst e
      exact run_copy_none (P := Tryd.prog) w 22 22 ty 5 _ _ _ _ _ _ Tryd.underlying22 hs (by simp)
  · rw [heap_setCells]; exact hO.lt
  · have hlt : (L.take o).length = o := by rw [List.length_take]; omega
    by_cases a : j < o
    · rw [World.cell?_setCells_out g _ o w _ (fun _ _ => .inl a), hO.at_ j (by omega)]
      congr 4
      rw [List.getD_eq_getElem?_getD, List.getD_eq_getElem?_getD, List.append_assoc, List.getElem?_append_left (by omega), List.getElem?_take_of_lt a]
    · by_cases b : j < o + l.length
      · have k := hin (j - o) (by omega)
        rw [show o + (j - o) = j by omega] at k
        rw [k]
        have e : (Lib.byteCells l)[j - o]? = some (.int .u8 ((l.getD (j - o) 0).toNat : Int)) := byteCells_get (by omega)
        rw [List.getElem?_eq_getElem (by omega)] at e
        rw [Option.some.inj e]
        congr 4
        rw [List.getD_eq_getElem?_getD, List.getD_eq_getElem?_getD, List.append_assoc, List.getElem?_append_right (by omega), hlt, List.getElem?_append_left (by omega)]
      · have hj' : j < L.length := by
          rw [List.length_append, List.length_append, hlt, List.length_drop] at hj; omega
        rw [World.cell?_setCells_out g _ o w _ (fun _ _ => .inr (by rw [hlc]; show o + l.length ≤ j; omega)), hO.at_ j hj']
        congr 4
        rw [List.getD_eq_getElem?_getD, List.getD_eq_getElem?_getD, List.getElem?_append_right (by rw [List.length_append, hlt]; omega), List.length_append, hlt, List.getElem?_drop]
        congr 2
        omega
  · rw [World.frozen?_setCells]
    have hlt : (L.take o).length = o := by rw [List.length_take]; omega
    exact hO.fr j (by rw [List.length_append, List.length_append, hlt, List.length_drop] at hj; omega)
/-- The rest of such a block, as a slice. -/
theorem slice_out {g n at_ : Nat} (h : at_ < n) (w' : World) : (Instr.slice 22 (.slice (some ⟨g, 0, none⟩) n n) (some (.int .i64 at_)) none none).run Tryd.prog w' = .ok (.slice (some ⟨g, at_, none⟩) (n - at_) (n - at_)) w' := by
  rw [run_slice_l w' _ _ _ _ elem8 .i64 _ (by omega) (by omega), run_size8]
  simp only [Result.andThen, sliced, Int.toNat_natCast, Nat.mul_one]
  rw [if_neg (by omega)]
  show Result.ok (Value.slice (some (Addr.add ⟨g, 0, none⟩ at_)) _ _) w' = _
  rw [Go.WideShapes.add_plain, Nat.zero_add]
theorem made_bytes {w : World} {base g n : Nat} (h : w.ownsRow base 5 1 (.slice (some ⟨g, 0, none⟩) n n) n (madeCells (Value.int .u8 0).cells (n * 1)).toList) : OutB w g (List.replicate n 0) := by
  have e : (madeCells (Value.int .u8 0).cells (n * 1)).toList = Lib.byteCells (List.replicate n 0) := by
    rw [Nat.mul_one]
    unfold Lib.byteCells
    rw [List.map_replicate]
    exact toList_madeCells_one (.int .u8 0) _
  rw [e] at h
  have hl : (List.replicate n (0 : UInt8)).length = n := List.length_replicate
  refine ⟨(h.lt g rfl).1 |> fun _ => ?_, fun j hj => ?_, fun j hj => ?_⟩
  · rcases h.2 with ⟨h0, _⟩ | ⟨g', cap, cur, hv, hb, hh, _⟩
    · cases h0
    · cases hv
      rcases Nat.lt_or_ge g w.heap.size with k | k
      · exact k
      · rw [Array.getElem?_eq_none k] at hh; cases hh
  · have k := h.cells (g := g) rfl j (.int .u8 (((List.replicate n (0 : UInt8)).getD j 0).toNat : Int)) (byteCells_get hj)
    rw [Go.WideShapes.add_plain, Nat.zero_add] at k
    exact k
  · rcases h.2 with ⟨h0, _⟩ | ⟨g', cap, cur, hv, hb, hh, _⟩
    · cases h0
    · cases hv
      exact Lib.frozen_of_heap hh _

/-- append of any slice of bytes onto what the call owns. -/
theorem wpList_appB (w : World) {ops : Array Oper} {rest : List Oper} {o : Oper} {a : Act} {Q : Exit → Act → World → Prop} (hgd : o.guard = none) (s x : Operand)
    (ho : o.op = .call { callee := .builtin .append, args := #[s, x], argTypes := #[22, 22] }) (base : Nat) (v : Value) (n : Nat) (xs : List Value) (hs : a.eval s = v) (hown : w.ownsRow base 5 1 v n xs)
    (ao : Option Addr) (l : List UInt8) (cap : Nat) (hx : a.eval x = .slice ao l.length cap) (hI : IsB w ao l cap) (hsz : n + l.length ≤ 1000000000000) (hbase : base ≤ w.heap.size)
    (h : ∀ v2 w2, w2.ownsRow base 5 1 v2 (n + l.length) (xs ++ Lib.byteCells l) → (∀ W, Fuw W w → W.heap.size ≤ base → Fuw W w2) → wpList Tryd.prog ops Q rest (a.put o.dst v2) w2) : wpList Tryd.prog ops Q (o :: rest) a w := by
  obtain ⟨i0, hi, hz0, hz1, hz2⟩ := info_parts infoB
  cases ao with
  | none =>
    have hl : l = [] := List.length_eq_zero_iff.1 (by have := hI.nil rfl; have := hI.le; omega)
    have hc := hI.nil rfl
    subst hl hc
    exact wpList_append_own_none hgd s x 22 ho base 5 i0 1 Tryd.underlying22 hi v n xs hs hown hx (h v w (by simpa [Lib.byteCells] using hown) (fun W hW _ => hW))
  | some ad =>
    refine wpList_append_own w hgd s x 22 ho base 5 i0 (.int .u8 0) 1 1 Tryd.underlying22 hi hz0 hz1 hz2 rfl (by decide) v n xs hs hown ad l.length cap (Lib.byteCells l) hx (by rw [Lib.byteCells_length, Nat.mul_one]) (fun j u hu => ?_) (fun u hu => ?_) (by unfold maxLen; omega) (by omega) hbase ?_
    · have hjl : j < l.length := by
        rcases Nat.lt_or_ge j l.length with k | k
        · exact k
        · rw [List.getElem?_eq_none (by rw [Lib.byteCells_length]; exact k)] at hu; cases hu
      obtain ⟨b, off, e, hb, hc⟩ := hI.at_ (by omega)
      obtain rfl := Option.some.inj e
      rw [byteCells_get hjl] at hu
      rw [Go.WideShapes.add_plain, hc j hjl]
      exact hu
    · unfold Lib.byteCells at hu
      obtain ⟨c, -, rfl⟩ := List.mem_map.1 hu
      rfl
    · intro v2 w2 ho2 hg2 _
      exact h v2 w2 ho2 (fun W hW hB => Below.grown hW hg2 hW.size (fun k hk => Nat.le_trans hB (hown.lt k hk).1))
theorem own_empty (w : World) : (w.alloc (.cells #[] 5)).ownsRow w.heap.size 5 1 (.slice (some ⟨w.heap.size, 0, none⟩) 0 0) 0 [] :=
  ⟨rfl, .inr ⟨w.heap.size, 0, #[], rfl, Nat.le_refl _, by show (w.heap.push _)[w.heap.size]? = _; rw [Array.getElem?_push, if_pos rfl], Nat.le_refl _, Nat.zero_le _, rfl, rfl⟩⟩
end Go.Proofs.YtehmdeponbhhjaaDoor
