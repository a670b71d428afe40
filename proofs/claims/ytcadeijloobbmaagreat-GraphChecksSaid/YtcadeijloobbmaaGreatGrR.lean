/-
  Package graph and its reference: New; the worked example of the laws. Nothing that was there turns.
-/
import Derived.Test.YtcadeijloobbmaaGreatGrH
import Derived.Test.YtcadeijloobbmaaGreatGrN
namespace Go.Proofs.YtcadeijloobbmaaGreat
open Go.RowKit

theorem load_gr (w : World) (b : Nat) (an ae : Option Addr) (ln le cn ce : Nat) (x y : Int) (h0 : w.cell? ⟨b, 0, none⟩ = some (.slice an ln cn)) (h1 : w.cell? ⟨b, 1, none⟩ = some (.slice ae le ce)) (h2 : w.cell? ⟨b, 2, none⟩ = some (.int .i64 x)) (h3 : w.cell? ⟨b, 3, none⟩ = some (.int .i64 y)) :
    (loadVar 25 ⟨b, 0, none⟩).run Tryz.prog w = .ok (.agg #[.slice an ln cn, .slice ae le ce, .int .i64 x, .int .i64 y]) w := by
  go_simp
theorem g_ret {fn : Func} {p : Tmp} (hres : fn.results = #[.cell p 25]) {tmps : Array Value} {B : Nat} {an ae : Option Addr} {ln le cn ce : Nat} {x y : Int} {w : World} {t : TypeId} {Q : Ending → World → Prop}
    (hp : tmps.getD p undef = .pointer (some ⟨B, 0, none⟩)) (h : Bk w B #[.slice an ln cn, .slice ae le ce, .int .i64 x, .int .i64 y] t)
    (hQ : Q (.returned (.agg #[.slice an ln cn, .slice ae le ce, .int .i64 x, .int .i64 y])) w) : bodyPost Tryz.prog fn Q Exit.ret { tmps := tmps, defers := [] } w := by
  refine bodyPost_ret (v := .agg #[.slice an ln cn, .slice ae le ce, .int .i64 x, .int .i64 y]) ?_ rfl hQ
  have e : (asAddr (.pointer (some ⟨B, 0, none⟩))).run Tryz.prog w = .ok ⟨B, 0, none⟩ w := by go_simp
  rw [results_cell hres, hp, e]
  simp only [Result.andThen]
  exact load_gr w B an ae ln le cn ce x y (h.c 0) (h.c 1) (h.c 2) (h.c 3)
/-- The empty graph. -/
def nilG : Gr := ⟨[], [], 1, 1⟩
theorem nil_in (w : World) : GIn w nilG none none 0 0 := ⟨Sl.empty _, Sl.empty _, ⟨by decide, by decide⟩, ⟨by decide, by decide⟩⟩
def RetG (w : World) (g : Gr) (e : Ending) (w' : World) : Prop := ∃ an ae cn ce, e = .returned (grv g an ae cn ce) ∧ GIn w' g an ae cn ce ∧ Fuw w w'
theorem new_any (w : World) : Calls Tryz.prog 21 #[] w (RetG w nilG) := by
  go_enter Tryz.func21, Tryz.ntmps21
  go_wp2
  exact g_ret rfl rfl (Bk.new _ _ _) ⟨none, none, 0, 0, rfl, nil_in _, fuwA _ _⟩
/-- The worked example; where its first edge leads. -/
def exG (t : Int) : Gr := ⟨[⟨1, [], []⟩, ⟨2, [], []⟩], [⟨1, 1, t, [84], []⟩, ⟨2, 2, 2, [84], []⟩], 3, 3⟩
def exN : Array Value := #[.int .i64 1, .slice none 0 0, .slice none 0 0, .int .i64 2, .slice none 0 0, .slice none 0 0]
def exE (t : Int) : Array Value := #[.int .i64 1, .int .i64 1, .int .i64 t, .string ⟨#[84]⟩, .slice none 0 0, .int .i64 2, .int .i64 2, .int .i64 2, .string ⟨#[84]⟩, .slice none 0 0]
theorem i64_s {n : Int} (h : -10 ≤ n) (h' : n ≤ 10) : I64 n := ⟨by omega, by omega⟩
theorem i1 : I64 1 := ⟨by decide, by decide⟩
theorem i2 : I64 2 := ⟨by decide, by decide⟩
theorem i3 : I64 3 := ⟨by decide, by decide⟩
theorem m1 : (1 : Nat) ≤ maxLen := by unfold maxLen; decide
theorem m2 : (2 : Nat) ≤ maxLen := by unfold maxLen; decide
theorem ex_in {w : World} {b1 b2 : Nat} {t : Int} {t1 t2 : TypeId} (h1 : Bk w b1 exN t1) (h2 : Bk w b2 (exE t) t2) (ht : -10 ≤ t) (ht' : t ≤ 10) : GIn w (exG t) (some ⟨b1, 0, none⟩) (some ⟨b2, 0, none⟩) 2 2 := by
  refine ⟨⟨Nat.le_refl _, m2, (fun h => by cases h), fun _ => ⟨b1, 0, rfl, fun i hi => ?_⟩⟩, ⟨Nat.le_refl _, m2, (fun h => by cases h), fun _ => ⟨b2, 0, rfl, fun i hi => ?_⟩⟩, i3, i3⟩
  · have hi' : i < 2 := hi
    rcases (show i = 0 ∨ i = 1 by omega) with rfl | rfl
    · exact ⟨i1, h1.c 0, ⟨none, 0, h1.c 1, Sl.empty _⟩, none, 0, h1.c 2, Sl.empty _⟩
    · exact ⟨i2, h1.c 3, ⟨none, 0, h1.c 4, Sl.empty _⟩, none, 0, h1.c 5, Sl.empty _⟩
  · have hi' : i < 2 := hi
    rcases (show i = 0 ∨ i = 1 by omega) with rfl | rfl
    · exact ⟨i1, i1, i64_s ht ht', m1, h2.c 0, h2.c 1, h2.c 2, h2.c 3, none, 0, h2.c 4, Sl.empty _⟩
    · exact ⟨i2, i2, i2, m1, h2.c 5, h2.c 6, h2.c 7, h2.c 8, none, 0, h2.c 9, Sl.empty _⟩
theorem example_any (w : World) : Calls Tryz.prog 18 #[] w (fun e w' => ∃ b1 b2, e = .returned (.agg #[.slice (some ⟨b1, 0, none⟩) 2 2, .slice (some ⟨b2, 0, none⟩) 2 2, .int .i64 3, .int .i64 3]) ∧ Bk w' b1 exN 38 ∧ Bk w' b2 (exE 2) 40 ∧ w.heap.size ≤ b1 ∧ w.heap.size ≤ b2 ∧ b1 ≠ b2 ∧ Fuw w w') := by
  go_enter Tryz.func18, Tryz.ntmps18
  go_wp2
  have p0 := Bk.new w #[.slice (some ⟨w.heap.size + 1, 0, none⟩) 2 2, .slice (some ⟨w.heap.size + 1 + 1, 0, none⟩) 2 2, .int .i64 3, .int .i64 3] 25
  have f0 := fuwA w (.cells #[.slice (some ⟨w.heap.size + 1, 0, none⟩) 2 2, .slice (some ⟨w.heap.size + 1 + 1, 0, none⟩) 2 2, .int .i64 3, .int .i64 3] 25)
  have s0 : (w.alloc (.cells #[.slice (some ⟨w.heap.size + 1, 0, none⟩) 2 2, .slice (some ⟨w.heap.size + 1 + 1, 0, none⟩) 2 2, .int .i64 3, .int .i64 3] 25)).heap.size = w.heap.size + 1 := by simp
  generalize w.alloc (.cells #[.slice (some ⟨w.heap.size + 1, 0, none⟩) 2 2, .slice (some ⟨w.heap.size + 1 + 1, 0, none⟩) 2 2, .int .i64 3, .int .i64 3] 25) = W1 at *
  have p1 := Bk.new W1 exN 38
  have f1 := fuwA W1 (.cells exN 38)
  have s1 : (W1.alloc (.cells exN 38)).heap.size = w.heap.size + 1 + 1 := by simp [s0]
  rw [s0] at p1
  unfold exN at p1 f1 s1
  generalize W1.alloc _ = W2 at *
  have p2 := Bk.new W2 (exE 2) 40
  have f2 := fuwA W2 (.cells (exE 2) 40)
  rw [s1] at p2
  unfold exE at p2 f2
  exact g_ret rfl rfl ((p0.on f1).on f2) ⟨w.heap.size + 1, w.heap.size + 1 + 1, rfl, p1.on f2, p2, by omega, by omega, by omega, (f0.trans f1).trans f2⟩
theorem ex_ok : chkV (exG 2) = 0 := by decide +kernel
theorem ex_bad : chkV (exG 9) = 10 := by decide +kernel
theorem ex_nil : chkV nilG = 0 := by decide +kernel
theorem ex_a1 : nameV [97, 95, 49] = true := by decide +kernel
theorem ex_1a : nameV [49, 97] = false := by decide +kernel
theorem ex_both : adjV (exG 2).es 2 [] 3 = [(1, 1), (2, 2)] := by
  unfold adjV
  rw [show stpV (exG 2).es 2 [] 3 = [(1, 1), (2, 2)] by decide +kernel]
  exact (srtV_of (by unfold SrtP; simp [adjL]) (List.Perm.refl _)).symm
theorem ex_inn : adjV (exG 2).es 2 [[84]] 2 = [(1, 1), (2, 2)] := by
  unfold adjV
  rw [show stpV (exG 2).es 2 [[84]] 2 = [(1, 1), (2, 2)] by decide +kernel]
  exact (srtV_of (by unfold SrtP; simp [adjL]) (List.Perm.refl _)).symm
theorem ex_out : adjV (exG 2).es 2 [] 1 = [(2, 2)] := by
  unfold adjV
  rw [show stpV (exG 2).es 2 [] 1 = [(2, 2)] by decide +kernel]
  exact (srtV_of (by unfold SrtP; simp) (List.Perm.refl _)).symm
end Go.Proofs.YtcadeijloobbmaaGreat
