/-
  Package codec: Frame of every slice of bytes is its frame; nothing that was there turns. Condition: the table of halves of a byte reads as its initialiser lays it (Good5).
-/
import Derived.Test.YtolkdmhjomampaaDoorCdA
import Derived.Test.YtolkdmhjomampaaDoorCdC
import Derived.Laws.IdiomCopy
import Derived.Lib.FrozenHead
import Derived.Lib.Builder
namespace Go.Proofs.YtolkdmhjomampaaDoor
open Go.RowKit

/-- A block that may be written, holding these bytes from its beginning. -/
structure OutB (w : World) (g : Nat) (L : List UInt8) : Prop where
  lt : g < w.heap.size
  at_ : ∀ j, j < L.length → w.cell? ⟨g, j, none⟩ = some (.int .u8 ((L.getD j 0).toNat : Int))
  fr : ∀ j, j < L.length → w.frozen? ⟨g, j, none⟩ = false
theorem OutB.on {w w' : World} {g : Nat} {L : List UInt8} (h : OutB w g L) (hf : Fuw w w') : OutB w' g L :=
  ⟨Nat.lt_of_lt_of_le h.lt hf.size, fun j hj => (Below.cell hf (p := ⟨g, j, none⟩) h.lt).trans (h.at_ j hj), fun j hj => by
    rw [← h.fr j hj]
    unfold World.frozen?
    rw [Below.block hf g h.lt]⟩
theorem OutB.isB {w : World} {g cap : Nat} {L : List UInt8} (h : OutB w g L) (hc : L.length ≤ cap) (hm : cap ≤ maxLen) : IsB w (some ⟨g, 0, none⟩) L cap :=
  ⟨hc, hm, (fun e => by cases e), fun _ => ⟨g, 0, rfl, h.lt, fun j hj => by rw [Nat.zero_add]; exact h.at_ j hj⟩⟩
theorem fuw_cells {W : World} (g : Nat) (hg : W.heap.size ≤ g) : ∀ (vs : List Value) (o : Nat) (w : World), Fuw W w → Fuw W (w.setCells g o vs)
  | [], _, _, h => h
  | v :: r, o, w, h => by
    rw [World.setCells]
    exact fuw_cells g hg r (o + 1) _ (Below.setCell h hg v)
theorem heap_setCells (g : Nat) : ∀ (vs : List Value) (o : Nat) (w : World), (w.setCells g o vs).heap.size = w.heap.size
  | [], _, _ => rfl
  | v :: r, o, w => by
    rw [World.setCells, heap_setCells g r (o + 1)]
    exact World.size_setCell ..
/-- copy into such a block. -/
theorem run_copyB {w : World} {ao : Option Addr} {l : List UInt8} {cap : Nat} (h : IsB w ao l cap) {g o dLen dCap : Nat} {L : List UInt8} (hO : OutB w g L) (h1 : o + l.length ≤ L.length) (h2 : l.length ≤ dLen) :
    ∃ w', (∀ ty, (Builtin.copy_ #[27, 27] ty #[.slice (some ⟨g, o, none⟩) dLen dCap, .slice ao l.length cap]).run Tryd.prog w = .ok (.int .i64 (l.length : Int)) w') ∧ OutB w' g (L.take o ++ l ++ L.drop (o + l.length)) ∧ ∀ W, Fuw W w → W.heap.size ≤ g → Fuw W w' := by
  have hs : (Tryd.prog.info? 5).map (·.size) = some 1 := by kernel_rfl
  have hlc := Lib.byteCells_length l
  have hin := World.cell?_setCells_in g (Lib.byteCells l) o w (fun j hj => by rw [hO.at_ _ (by omega)]; rfl)
  refine ⟨w.setCells g o (Lib.byteCells l), fun ty => ?_, ⟨?_, fun j hj => ?_, fun j hj => ?_⟩, fun W hW hg => fuw_cells g hg _ _ _ hW⟩
  · by_cases hp : 0 < l.length
    · obtain ⟨b, off, rfl, hb, hc⟩ := h.at_ hp
      have k := run_copy_cells (P := Tryd.prog) w 27 27 ty 5 g o dLen dCap ⟨b, off, none⟩ l.length cap (Lib.byteCells l) Tryd.underlying27 hs (by rw [hlc]; exact (Nat.min_eq_left h2).symm)
        (fun j v hj => by
          have hjl : j < l.length := by
            rcases Nat.lt_or_ge j l.length with t | t
            · exact t
            · rw [List.getElem?_eq_none (by rw [hlc]; exact t)] at hj; cases hj
          rw [byteCells_get hjl] at hj
          rw [Go.WideShapes.add_plain, hc j hjl]
          exact hj)
        (fun j hj => by rw [hO.at_ _ (by omega)]; rfl) (fun j hj => hO.fr _ (by omega))
        (fun v hv => by
          unfold Lib.byteCells at hv
          obtain ⟨c, -, rfl⟩ := List.mem_map.1 hv
          rfl)
      rw [k, hlc]; rfl
    · have e : l = [] := List.length_eq_zero_iff.1 (by omega)
      subst e
      exact run_copy_none (P := Tryd.prog) w 27 27 ty 5 _ _ _ _ _ _ Tryd.underlying27 hs (by simp)
  · rw [heap_setCells]; exact hO.lt
  · have hlt : (L.take o).length = o := by rw [List.length_take]; omega
    by_cases a : j < o
    · rw [World.cell?_setCells_out g _ o w _ (fun _ _ => .inl a), hO.at_ j (by omega)]
      congr 4
      rw [List.getD_eq_getElem?_getD, List.getD_eq_getElem?_getD, List.append_assoc, List.getElem?_append_left (by omega), List.getElem?_take_of_lt a]
    · by_cases b : j < o + l.length
      · have k := hin (j - o) (by omega)
        rw [show o + (j - o) = j by omega] at k
        rw [k]
        have e : (Lib.byteCells l)[j - o]? = some (.int .u8 ((l.getD (j - o) 0).toNat : Int)) := byteCells_get (by omega)
        rw [List.getElem?_eq_getElem (by omega)] at e
        rw [Option.some.inj e]
        congr 4
        rw [List.getD_eq_getElem?_getD, List.getD_eq_getElem?_getD, List.append_assoc, List.getElem?_append_right (by omega), hlt, List.getElem?_append_left (by omega)]
      · have hj' : j < L.length := by
          rw [List.length_append, List.length_append, hlt, List.length_drop] at hj; omega
        rw [World.cell?_setCells_out g _ o w _ (fun _ _ => .inr (by rw [hlc]; show o + l.length ≤ j; omega)), hO.at_ j hj']
        congr 4
        rw [List.getD_eq_getElem?_getD, List.getD_eq_getElem?_getD, List.getElem?_append_right (by rw [List.length_append, hlt]; omega), List.length_append, hlt, List.getElem?_drop]
        congr 2
        omega
  · rw [World.frozen?_setCells]
    have hlt : (L.take o).length = o := by rw [List.length_take]; omega
    exact hO.fr j (by rw [List.length_append, List.length_append, hlt, List.length_drop] at hj; omega)
/-- The rest of such a block, as a slice. -/
theorem slice_out {g n at_ : Nat} (h : at_ < n) (w' : World) : (Instr.slice 27 (.slice (some ⟨g, 0, none⟩) n n) (some (.int .i64 at_)) none none).run Tryd.prog w' = .ok (.slice (some ⟨g, at_, none⟩) (n - at_) (n - at_)) w' := by
  rw [run_slice_l w' _ _ _ _ elem8 .i64 _ (by omega) (by omega), run_size8]
  simp only [Result.andThen, sliced, Int.toNat_natCast, Nat.mul_one]
  rw [if_neg (by omega)]
  show Result.ok (Value.slice (some (Addr.add ⟨g, 0, none⟩ at_)) _ _) w' = _
  rw [Go.WideShapes.add_plain, Nat.zero_add]
theorem made_bytes {w : World} {base g n : Nat} (h : w.ownsRow base 5 1 (.slice (some ⟨g, 0, none⟩) n n) n (madeCells (Value.int .u8 0).cells (n * 1)).toList) : OutB w g (List.replicate n 0) := by
  have e : (madeCells (Value.int .u8 0).cells (n * 1)).toList = Lib.byteCells (List.replicate n 0) := by
    rw [Nat.mul_one]
    unfold Lib.byteCells
    rw [List.map_replicate]
    exact toList_madeCells_one (.int .u8 0) _
  rw [e] at h
  have hl : (List.replicate n (0 : UInt8)).length = n := List.length_replicate
  refine ⟨(h.lt g rfl).1 |> fun _ => ?_, fun j hj => ?_, fun j hj => ?_⟩
  · rcases h.2 with ⟨h0, _⟩ | ⟨g', cap, cur, hv, hb, hh, _⟩
    · cases h0
    · cases hv
      rcases Nat.lt_or_ge g w.heap.size with k | k
      · exact k
      · rw [Array.getElem?_eq_none k] at hh; cases hh
  · have k := h.cells (g := g) rfl j (.int .u8 (((List.replicate n (0 : UInt8)).getD j 0).toNat : Int)) (byteCells_get hj)
    rw [Go.WideShapes.add_plain, Nat.zero_add] at k
    exact k
  · rcases h.2 with ⟨h0, _⟩ | ⟨g', cap, cur, hv, hb, hh, _⟩
    · cases h0
    · cases hv
      exact Lib.frozen_of_heap hh _

/-- append of any slice of bytes onto what the call owns. -/
theorem wpList_appB (w : World) {ops : Array Oper} {rest : List Oper} {o : Oper} {a : Act} {Q : Exit → Act → World → Prop} (hgd : o.guard = none) (s x : Operand)
    (ho : o.op = .call { callee := .builtin .append, args := #[s, x], argTypes := #[27, 27] }) (base : Nat) (v : Value) (n : Nat) (xs : List Value) (hs : a.eval s = v) (hown : w.ownsRow base 5 1 v n xs)
    (ao : Option Addr) (l : List UInt8) (cap : Nat) (hx : a.eval x = .slice ao l.length cap) (hI : IsB w ao l cap) (hsz : n + l.length ≤ 1000000000000) (hbase : base ≤ w.heap.size)
    (h : ∀ v2 w2, w2.ownsRow base 5 1 v2 (n + l.length) (xs ++ Lib.byteCells l) → (∀ W, Fuw W w → W.heap.size ≤ base → Fuw W w2) → wpList Tryd.prog ops Q rest (a.put o.dst v2) w2) : wpList Tryd.prog ops Q (o :: rest) a w := by
  obtain ⟨i0, hi, hz0, hz1, hz2⟩ := info_parts infoB
  cases ao with
  | none =>
    have hl : l = [] := List.length_eq_zero_iff.1 (by have := hI.nil rfl; have := hI.le; omega)
    have hc := hI.nil rfl
    subst hl hc
    exact wpList_append_own_none hgd s x 27 ho base 5 i0 1 Tryd.underlying27 hi v n xs hs hown hx (h v w (by simpa [Lib.byteCells] using hown) (fun W hW _ => hW))
  | some ad =>
    refine wpList_append_own w hgd s x 27 ho base 5 i0 (.int .u8 0) 1 1 Tryd.underlying27 hi hz0 hz1 hz2 rfl (by decide) v n xs hs hown ad l.length cap (Lib.byteCells l) hx (by rw [Lib.byteCells_length, Nat.mul_one]) (fun j u hu => ?_) (fun u hu => ?_) (by unfold maxLen; omega) (by omega) hbase ?_
    · have hjl : j < l.length := by
        rcases Nat.lt_or_ge j l.length with k | k
        · exact k
        · rw [List.getElem?_eq_none (by rw [Lib.byteCells_length]; exact k)] at hu; cases hu
      obtain ⟨b, off, e, hb, hc⟩ := hI.at_ (by omega)
      obtain rfl := Option.some.inj e
      rw [byteCells_get hjl] at hu
      rw [Go.WideShapes.add_plain, hc j hjl]
      exact hu
    · unfold Lib.byteCells at hu
      obtain ⟨c, -, rfl⟩ := List.mem_map.1 hu
      rfl
    · intro v2 w2 ho2 hg2 _
      exact h v2 w2 ho2 (fun W hW hB => Below.grown hW hg2 hW.size (fun k hk => Nat.le_trans hB (hown.lt k hk).1))
theorem own_empty (w : World) : (w.alloc (.cells #[] 5)).ownsRow w.heap.size 5 1 (.slice (some ⟨w.heap.size, 0, none⟩) 0 0) 0 [] :=
  ⟨rfl, .inr ⟨w.heap.size, 0, #[], rfl, Nat.le_refl _, by show (w.heap.push _)[w.heap.size]? = _; rw [Array.getElem?_push, if_pos rfl], Nat.le_refl _, Nat.zero_le _, rfl, rfl⟩⟩
end Go.Proofs.YtolkdmhjomampaaDoor
