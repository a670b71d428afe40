/-
  Package schema: the rule that a text of one kind can be the text of (read). Condition: the library's variables read as laid (Good). Nothing that was there turns.
-/
import Derived.Test.YtadnaakbhgacgaaDoorScL
namespace Go.Proofs.YtadnaakbhgacgaaDoor
open Go.RowKit
open Go.Lib (itoa join)

theorem bs_app (a b : List UInt8) : bs a ++ bs b = bs (a ++ b) := by
  apply ByteArray.ext
  rw [ByteArray.data_append]
  apply Array.ext'
  simp [bs]
theorem bk_lt {w : World} {B : Nat} {cs : Array Value} {t : TypeId} (h : Bk w B cs t) : B + 1 ≤ w.heap.size := h.lt
theorem load_rl (w : World) (b : Nat) (r : Rl) (h0 : w.cell? ⟨b, 0, none⟩ = some (.int .i64 r.kd)) (h1 : w.cell? ⟨b, 1, none⟩ = some (.int .i64 r.nn)) (h2 : w.cell? ⟨b, 2, none⟩ = some (.string (bs r.nm))) (h3 : w.cell? ⟨b, 3, none⟩ = some (.string (bs r.ky))) (h4 : w.cell? ⟨b, 4, none⟩ = some (.string (bs r.fr))) (h5 : w.cell? ⟨b, 5, none⟩ = some (.string (bs r.tt))) :
    (loadVar 23 ⟨b, 0, none⟩).run Tryd.prog w = .ok (rlv r) w := by
  unfold rlv
  go_simp
theorem r_ret {fn : Func} {p u : Tmp} {tu : TypeId} (hres : fn.results = #[.cell p 23, .tmp u]) {tmps : Array Value} {B : Nat} {r : Rl} {c : Value} {w : World} {Q : Ending → World → Prop} (_ : tu = tu)
    (hp : tmps.getD p undef = .pointer (some ⟨B, 0, none⟩)) (hu : tmps.getD u undef = c) (h : BkR w B r)
    (hQ : Q (.returned (.tuple #[rlv r, c])) w) : bodyPost Tryd.prog fn Q Exit.ret { tmps := tmps, defers := [] } w := by
  refine bodyPost_ret (v := .tuple #[rlv r, c]) ?_ rfl hQ
  rw [results_cell_tmp hres, hp, hu]
  have e : (asAddr (.pointer (some ⟨B, 0, none⟩))).run Tryd.prog w = .ok ⟨B, 0, none⟩ w := by go_simp
  rw [e]
  simp only [Result.andThen]
  rw [load_rl w B r h.c0 h.c1 h.c2 h.c3 h.c4 h.c5]
theorem bk_put6 {w : World} {B : Nat} {a0 a1 a2 a3 a4 a5 : Value} {t : TypeId} (h : Bk w B #[a0, a1, a2, a3, a4, a5] t) (b0 b1 b2 b3 b4 b5 : Value) : Bk ((((((w.setCell ⟨B, 0, none⟩ b0).setCell ⟨B, 1, none⟩ b1).setCell ⟨B, 2, none⟩ b2).setCell ⟨B, 3, none⟩ b3).setCell ⟨B, 4, none⟩ b4).setCell ⟨B, 5, none⟩ b5) B #[b0, b1, b2, b3, b4, b5] t :=
  (((((h.set_ 0 b0).set_ 1 b1).set_ 2 b2).set_ 3 b3).set_ 4 b4).set_ 5 b5
theorem fuw_put6 {w W : World} {B : Nat} (hf : Fuw w W) (hB : w.heap.size ≤ B) (b0 b1 b2 b3 b4 b5 : Value) : Fuw w ((((((W.setCell ⟨B, 0, none⟩ b0).setCell ⟨B, 1, none⟩ b1).setCell ⟨B, 2, none⟩ b2).setCell ⟨B, 3, none⟩ b3).setCell ⟨B, 4, none⟩ b4).setCell ⟨B, 5, none⟩ b5) := fuwS (fuwS (fuwS (fuwS (fuwS (fuwS hf hB) hB) hB) hB) hB) hB
theorem cutA_len (t : List UInt8) : (cutA t).length ≤ t.length := (List.takeWhile_sublist _).length_le
theorem cutB_len (t : List UInt8) : (cutB t).length ≤ t.length := by
  unfold cutB
  rw [List.length_drop]
  have := (List.dropWhile_sublist (l := t) (· != 32)).length_le
  omega
def RetR (w : World) (o : Option Rl) (e : Ending) (w' : World) : Prop := (match o with | some r => e = .returned (.tuple #[rlv r, .bool true]) | none => e = .returned (.tuple #[rlv nilR, .bool false])) ∧ Fuw w w'
set_option maxHeartbeats 6400000 in
set_option maxRecDepth 100000 in
theorem rd_any (k : Int) (hk : isK k = true) (s : List UInt8) (hs : s.length ≤ 140737488355328) (w : World) (G : Good w) : Calls Tryd.prog 44 #[.int .i64 k, .string (bs s)] w (RetR w (readR k (atoV (numW k s)) s)) := by
  have HS := Lib.hid (fun w' => shape_any k w')
  unfold RetS shp at HS
  rw [hk] at HS
  have HCP := Lib.hid (fun w' => cutp_any s (hdW k ++ [32]) w')
  have HRD := Lib.hid (show readR k (atoV (numW k s)) s = if Lib.hasPrefix s (hdW k ++ [32]) = true then some (rulR k (atoV (numW k s)) (s.drop (hdW k ++ [32]).length)) else none from by
    unfold readR restR
    rw [List.length_append]; rfl)
  have HR4 := Lib.hid (fun (n : Int) (t : List UInt8) => show rulR k n t = ⟨k, if kindK k = true then kwN (cutA (cutB (cutB t))) else if (k == 7) = true then n else 0, cutA t, if keyK k = true then cutA (cutB t) else [], if (k == 6) = true then endO (cutA (cutB t)) else [], if (k == 6) = true then endO (cutA (cutB (cutB t))) else []⟩ from by unfold rulR; simp only [beq_iff_eq])
  have HNW := Lib.hid (show numW k s = cutA (cutB (s.drop (hdW k ++ [32]).length)) from by unfold numW restR; rw [List.length_append]; rfl)
  have hcl := cls hk
  have hh := hd_len k
  clear hk
  have HGD := Lib.hid (fun w' (hf : Fuw w w') => G.on hf)
  obtain ⟨W, hW⟩ : ∃ W, w.alloc (.cells #[.int .i64 0, .int .i64 0, .string ⟨#[]⟩, .string ⟨#[]⟩, .string ⟨#[]⟩, .string ⟨#[]⟩] 23) = W := ⟨_, rfl⟩
  have P4 := Lib.hid (show BkR W w.heap.size nilR from by rw [← hW]; exact BkR.new w nilR)
  have F0 := Lib.hid (show Fuw w W from by rw [← hW]; exact fuwA _ _)
  have hsz : (bs (hdW k)).size = (hdW k).length := bs_size _
  have hcat : bs (hdW k) ++ (⟨#[32]⟩ : ByteArray) = bs (hdW k ++ [32]) := bs_app (hdW k) [32]
  have hone : (⟨#[32]⟩ : ByteArray).size = 1 := rfl
  generalize hdW k = hw at *
  generalize keyK k = b1 at *
  generalize (k == 6) = b2 at *
  generalize kindK k = b3 at *
  generalize (k == 7) = b4 at *
  go_enter Tryd.func44, Tryd.ntmps44
  go_upto_region 1 with fail
  clear hW
  go_wp2_with fail
  go_at_call 24; refine (HS.out _).mono ?_; rintro e1 w1 ⟨rfl, f1⟩
  have P4 := Lib.hid (P4.out.on f1)
  have F1 := Lib.hid (F0.out.trans f1)
  clear f1 F0
  go_upto_region 2 with fail
  obtain ⟨V, hV⟩ : ∃ V, w1.alloc (.cells #[.string (bs hw), .bool b1, .bool b2, .bool b3, .bool b4] 41) = V := ⟨_, rfl⟩
  have Q := Lib.hid (show Bk V w1.heap.size #[.string (bs hw), .bool b1, .bool b2, .bool b3, .bool b4] 41 from by rw [← hV]; exact Bk.new _ _ _)
  have f3 : Fuw w1 V := by rw [← hV]; exact fuwA _ _
  rw [hV]
  clear hV
  have F := Lib.hid (F1.out.trans f3)
  have P4 := Lib.hid (P4.out.on f3)
  clear f3 F1
  have s0 := Q.out.c 0
  go_wp2_with fail
  go_at_call 59; refine (HCP.out _).mono ?_; rintro e2 w2 ⟨rfl, f2⟩
  have P4 := Lib.hid (P4.out.on f2)
  have Q := Lib.hid (Q.out.on f2)
  have F := Lib.hid (F.out.trans f2)
  clear f2 s0 hcat hsz hone HCP
  have HRD := Lib.hid HRD.out
  cases hp : Lib.hasPrefix s (hw ++ [32]) with
  | false =>
    rw [hp, if_neg Bool.false_ne_true] at HRD
    clear hp
    go_upto_region 3 with fail
    obtain ⟨V8, hV8⟩ : ∃ V8, w2.alloc (.cells #[.string (bs s)] 9) = V8 := ⟨_, rfl⟩
    have f3 : Fuw w2 V8 := by rw [← hV8]; exact fuwA _ _
    rw [hV8]
    clear hV8
    have F := Lib.hid (F.out.trans f3)
    have P4 := Lib.hid (P4.out.on f3)
    clear f3
    have x0 : V8.cell? ⟨w.heap.size, 0, none⟩ = some (.int .i64 0) := P4.out.h.c 0
    have y0 := P4.out.h.f 0
    have x1 : V8.cell? ⟨w.heap.size, 1, none⟩ = some (.int .i64 0) := P4.out.h.c 1
    have y1 := P4.out.h.f 1
    have x2 : V8.cell? ⟨w.heap.size, 2, none⟩ = some (.string ⟨#[]⟩) := P4.out.h.c 2
    have y2 := P4.out.h.f 2
    have x3 : V8.cell? ⟨w.heap.size, 3, none⟩ = some (.string ⟨#[]⟩) := P4.out.h.c 3
    have y3 := P4.out.h.f 3
    have x4 : V8.cell? ⟨w.heap.size, 4, none⟩ = some (.string ⟨#[]⟩) := P4.out.h.c 4
    have y4 := P4.out.h.f 4
    have x5 : V8.cell? ⟨w.heap.size, 5, none⟩ = some (.string ⟨#[]⟩) := P4.out.h.c 5
    have y5 := P4.out.h.f 5
    go_wp2
    try simp only [Exit.inBlock, Exit.then]
    refine r_ret (tu := 4) rfl rfl rfl rfl (B := w.heap.size) (r := nilR) ⟨bk_put6 (show Bk _ w.heap.size #[.int .i64 0, .int .i64 0, .string ⟨#[]⟩, .string ⟨#[]⟩, .string ⟨#[]⟩, .string ⟨#[]⟩] _ from P4.out.h) _ _ _ _ _ _⟩ ⟨by rw [HRD.out]; rfl, fuw_put6 F.out (Nat.le_refl _) _ _ _ _ _ _⟩
  | true =>
    rw [hp, if_pos rfl] at HRD
    rw [if_pos rfl]
    have hT : (s.drop (hw ++ [32]).length).length ≤ 140737488355328 := by rw [List.length_drop]; omega
    generalize s.drop (hw ++ [32]).length = t at *
    clear hp
    go_upto_region 3 with fail
    obtain ⟨V8, hV8⟩ : ∃ V8, w2.alloc (.cells #[.string (bs t)] 9) = V8 := ⟨_, rfl⟩
    have R8 := Lib.hid (show Bk V8 w2.heap.size #[.string (bs t)] 9 from by rw [← hV8]; exact Bk.new _ _ _)
    have f3 : Fuw w2 V8 := by rw [← hV8]; exact fuwA _ _
    rw [hV8]
    clear hV8
    have hz := bk_lt Q.out
    have hz4 := P4.out.h.lt
    have F := Lib.hid (F.out.trans f3)
    have P4 := Lib.hid (P4.out.on f3)
    have Q := Lib.hid (Q.out.on f3)
    clear f3
    rcases hcl with ⟨rfl, rfl, rfl, rfl⟩ | ⟨rfl, rfl, rfl, rfl⟩ | ⟨rfl, rfl, rfl, rfl⟩ | ⟨rfl, rfl, rfl, rfl⟩
    · have HRF := Lib.hid (HR4.out (atoV (numW k s)) t)
      clear HR4
      go_wp2_with fail
      go_at_call 60; refine (next_any _ t (by unfold maxLen; omega) _ R8.out).mono ?_; rintro e9 w9 ⟨rfl, wm, fm, hwm⟩
      have R8 := Lib.hid (show Bk w9 w2.heap.size #[.string (bs (cutB t))] 9 from by rw [hwm]; exact (R8.out.on fm).set_ 0 _)
      have Q := Lib.hid (show Bk w9 w1.heap.size #[.string (bs hw), .bool true, .bool false, .bool false, .bool false] 41 from by rw [hwm]; exact (Q.out.on fm).far (show w1.heap.size ≠ w2.heap.size by omega) _)
      have P4 := Lib.hid (show BkR w9 w.heap.size nilR from by rw [hwm]; exact ⟨(P4.out.h.on fm).far (show w.heap.size ≠ w2.heap.size by omega) _⟩)
      have F := Lib.hid (show Fuw w w9 from by rw [hwm]; exact fuwS (F.out.trans fm) (by omega))
      clear hwm fm
      obtain ⟨V9, rfl⟩ : ∃ z, z = w9 := ⟨w9, rfl⟩
      go_upto_region 7 with fail
      obtain ⟨Va, hVa⟩ : ∃ Va, V9.alloc (.cells #[.int .i64 k, .int .i64 0, .string (bs (cutA t)), .string ⟨#[]⟩, .string ⟨#[]⟩, .string ⟨#[]⟩] 23) = Va := ⟨_, rfl⟩
      obtain ⟨B11, hB11⟩ : ∃ B11, B11 = V9.heap.size := ⟨_, rfl⟩
      have X := Lib.hid (show BkR Va B11 ⟨k, 0, cutA t, [], [], []⟩ from by rw [← hVa, hB11]; exact BkR.new V9 ⟨k, 0, cutA t, [], [], []⟩)
      have fa : Fuw V9 Va := by rw [← hVa]; exact fuwA _ _
      have hb8 := bk_lt R8.out
      rw [hVa, ← hB11]
      have hbb : w2.heap.size < B11 := by omega
      have R8 := Lib.hid (R8.out.on fa)
      have Q := Lib.hid (Q.out.on fa)
      have P4 := Lib.hid (P4.out.on fa)
      have F := Lib.hid (F.out.trans fa)
      clear hVa fa hb8 hB11
      have s1 := Q.out.c 1
      have s2 := Q.out.c 2
      have s3 := Q.out.c 3
      have s4 := Q.out.c 4
      go_wp2_with fail
      go_at_call 60; refine (next_any _ (cutB t) (by have := cutB_len t; have := cutB_len (cutB t); unfold maxLen; omega) _ R8.out).mono ?_; rintro e9 w9 ⟨rfl, wm, fm, hwm⟩
      have R8 := Lib.hid (show Bk w9 w2.heap.size #[.string (bs (cutB (cutB t)))] 9 from by rw [hwm]; exact (R8.out.on fm).set_ 0 _)
      have Q := Lib.hid (show Bk w9 w1.heap.size #[.string (bs hw), .bool true, .bool false, .bool false, .bool false] 41 from by rw [hwm]; exact (Q.out.on fm).far (show w1.heap.size ≠ w2.heap.size by omega) _)
      have P4 := Lib.hid (show BkR w9 w.heap.size nilR from by rw [hwm]; exact ⟨(P4.out.h.on fm).far (show w.heap.size ≠ w2.heap.size by omega) _⟩)
      have F := Lib.hid (show Fuw w w9 from by rw [hwm]; exact fuwS (F.out.trans fm) (by omega))
      have X := Lib.hid (show BkR w9 B11 ⟨k, 0, cutA t, [], [], []⟩ from by rw [hwm]; exact ⟨(X.out.h.on fm).far (show B11 ≠ w2.heap.size by omega) _⟩)
      clear hwm fm
      obtain ⟨Vc, rfl⟩ : ∃ z, z = w9 := ⟨w9, rfl⟩
      clear s1 s2 s3 s4
      have z3 := X.out.h.f 3
      have g3 := X.out.c3
      go_upto_region 9 with fail
      obtain ⟨Vb, hVb⟩ : ∃ Vb, Vb = (Vc.setCell ⟨B11, 3, none⟩ (.string (bs (cutA (cutB t))))) := ⟨_, rfl⟩
      rw [← hVb]
      have X := Lib.hid (show BkR Vb B11 ⟨k, 0, cutA t, cutA (cutB t), [], []⟩ from by rw [hVb]; exact ⟨(X.out.h.set_ 3 _)⟩)
      have R8 := Lib.hid (show Bk Vb w2.heap.size _ _ from by rw [hVb]; exact (R8.out.far (show w2.heap.size ≠ B11 by omega) _))
      have Q := Lib.hid (show Bk Vb w1.heap.size #[.string (bs hw), .bool true, .bool false, .bool false, .bool false] 41 from by rw [hVb]; exact (Q.out.far (show w1.heap.size ≠ B11 by omega) _))
      have P4 := Lib.hid (show BkR Vb w.heap.size nilR from by rw [hVb]; exact ⟨(P4.out.h.far (show w.heap.size ≠ B11 by omega) _)⟩)
      have F := Lib.hid (show Fuw w Vb from by rw [hVb]; exact (fuwS F.out (by omega)))
      clear hVb
      clear z3 g3
      have s1 := Q.out.c 1
      have s2 := Q.out.c 2
      have s3 := Q.out.c 3
      have s4 := Q.out.c 4
      have x0 : Vb.cell? ⟨w.heap.size, 0, none⟩ = some (.int .i64 0) := P4.out.h.c 0
      have y0 := P4.out.h.f 0
      have x1 : Vb.cell? ⟨w.heap.size, 1, none⟩ = some (.int .i64 0) := P4.out.h.c 1
      have y1 := P4.out.h.f 1
      have x2 : Vb.cell? ⟨w.heap.size, 2, none⟩ = some (.string ⟨#[]⟩) := P4.out.h.c 2
      have y2 := P4.out.h.f 2
      have x3 : Vb.cell? ⟨w.heap.size, 3, none⟩ = some (.string ⟨#[]⟩) := P4.out.h.c 3
      have y3 := P4.out.h.f 3
      have x4 : Vb.cell? ⟨w.heap.size, 4, none⟩ = some (.string ⟨#[]⟩) := P4.out.h.c 4
      have y4 := P4.out.h.f 4
      have x5 : Vb.cell? ⟨w.heap.size, 5, none⟩ = some (.string ⟨#[]⟩) := P4.out.h.c 5
      have y5 := P4.out.h.f 5
      have g0 := X.out.c0; have g1 := X.out.c1; have g2 := X.out.c2; have g3 := X.out.c3; have g4 := X.out.c4; have g5 := X.out.c5
      go_wp2
      try simp only [Exit.inBlock, Exit.then]
      refine r_ret (tu := 4) rfl rfl rfl rfl (B := w.heap.size) (r := ⟨k, 0, cutA t, cutA (cutB t), [], []⟩) ⟨bk_put6 (show Bk _ w.heap.size #[.int .i64 0, .int .i64 0, .string ⟨#[]⟩, .string ⟨#[]⟩, .string ⟨#[]⟩, .string ⟨#[]⟩] _ from P4.out.h) _ _ _ _ _ _⟩ ⟨by rw [HRD.out, HRF.out]; rfl, fuw_put6 F.out (Nat.le_refl _) _ _ _ _ _ _⟩
    · have HRF := Lib.hid (HR4.out (atoV (numW k s)) t)
      clear HR4
      go_wp2_with fail
      go_at_call 60; refine (next_any _ t (by unfold maxLen; omega) _ R8.out).mono ?_; rintro e9 w9 ⟨rfl, wm, fm, hwm⟩
      have R8 := Lib.hid (show Bk w9 w2.heap.size #[.string (bs (cutB t))] 9 from by rw [hwm]; exact (R8.out.on fm).set_ 0 _)
      have Q := Lib.hid (show Bk w9 w1.heap.size #[.string (bs hw), .bool true, .bool false, .bool true, .bool false] 41 from by rw [hwm]; exact (Q.out.on fm).far (show w1.heap.size ≠ w2.heap.size by omega) _)
      have P4 := Lib.hid (show BkR w9 w.heap.size nilR from by rw [hwm]; exact ⟨(P4.out.h.on fm).far (show w.heap.size ≠ w2.heap.size by omega) _⟩)
      have F := Lib.hid (show Fuw w w9 from by rw [hwm]; exact fuwS (F.out.trans fm) (by omega))
      clear hwm fm
      obtain ⟨V9, rfl⟩ : ∃ z, z = w9 := ⟨w9, rfl⟩
      go_upto_region 7 with fail
      obtain ⟨Va, hVa⟩ : ∃ Va, V9.alloc (.cells #[.int .i64 k, .int .i64 0, .string (bs (cutA t)), .string ⟨#[]⟩, .string ⟨#[]⟩, .string ⟨#[]⟩] 23) = Va := ⟨_, rfl⟩
      obtain ⟨B11, hB11⟩ : ∃ B11, B11 = V9.heap.size := ⟨_, rfl⟩
      have X := Lib.hid (show BkR Va B11 ⟨k, 0, cutA t, [], [], []⟩ from by rw [← hVa, hB11]; exact BkR.new V9 ⟨k, 0, cutA t, [], [], []⟩)
      have fa : Fuw V9 Va := by rw [← hVa]; exact fuwA _ _
      have hb8 := bk_lt R8.out
      rw [hVa, ← hB11]
      have hbb : w2.heap.size < B11 := by omega
      have R8 := Lib.hid (R8.out.on fa)
      have Q := Lib.hid (Q.out.on fa)
      have P4 := Lib.hid (P4.out.on fa)
      have F := Lib.hid (F.out.trans fa)
      clear hVa fa hb8 hB11
      have s1 := Q.out.c 1
      have s2 := Q.out.c 2
      have s3 := Q.out.c 3
      have s4 := Q.out.c 4
      go_wp2_with fail
      go_at_call 60; refine (next_any _ (cutB t) (by have := cutB_len t; have := cutB_len (cutB t); unfold maxLen; omega) _ R8.out).mono ?_; rintro e9 w9 ⟨rfl, wm, fm, hwm⟩
      have R8 := Lib.hid (show Bk w9 w2.heap.size #[.string (bs (cutB (cutB t)))] 9 from by rw [hwm]; exact (R8.out.on fm).set_ 0 _)
      have Q := Lib.hid (show Bk w9 w1.heap.size #[.string (bs hw), .bool true, .bool false, .bool true, .bool false] 41 from by rw [hwm]; exact (Q.out.on fm).far (show w1.heap.size ≠ w2.heap.size by omega) _)
      have P4 := Lib.hid (show BkR w9 w.heap.size nilR from by rw [hwm]; exact ⟨(P4.out.h.on fm).far (show w.heap.size ≠ w2.heap.size by omega) _⟩)
      have F := Lib.hid (show Fuw w w9 from by rw [hwm]; exact fuwS (F.out.trans fm) (by omega))
      have X := Lib.hid (show BkR w9 B11 ⟨k, 0, cutA t, [], [], []⟩ from by rw [hwm]; exact ⟨(X.out.h.on fm).far (show B11 ≠ w2.heap.size by omega) _⟩)
      clear hwm fm
      obtain ⟨Vc, rfl⟩ : ∃ z, z = w9 := ⟨w9, rfl⟩
      clear s1 s2 s3 s4
      have z3 := X.out.h.f 3
      have g3 := X.out.c3
      go_upto_region 9 with fail
      obtain ⟨Vb, hVb⟩ : ∃ Vb, Vb = (Vc.setCell ⟨B11, 3, none⟩ (.string (bs (cutA (cutB t))))) := ⟨_, rfl⟩
      rw [← hVb]
      have X := Lib.hid (show BkR Vb B11 ⟨k, 0, cutA t, cutA (cutB t), [], []⟩ from by rw [hVb]; exact ⟨(X.out.h.set_ 3 _)⟩)
      have R8 := Lib.hid (show Bk Vb w2.heap.size _ _ from by rw [hVb]; exact (R8.out.far (show w2.heap.size ≠ B11 by omega) _))
      have Q := Lib.hid (show Bk Vb w1.heap.size #[.string (bs hw), .bool true, .bool false, .bool true, .bool false] 41 from by rw [hVb]; exact (Q.out.far (show w1.heap.size ≠ B11 by omega) _))
      have P4 := Lib.hid (show BkR Vb w.heap.size nilR from by rw [hVb]; exact ⟨(P4.out.h.far (show w.heap.size ≠ B11 by omega) _)⟩)
      have F := Lib.hid (show Fuw w Vb from by rw [hVb]; exact (fuwS F.out (by omega)))
      clear hVb
      clear z3 g3
      have s1 := Q.out.c 1
      have s2 := Q.out.c 2
      have s3 := Q.out.c 3
      have s4 := Q.out.c 4
      go_wp2_with fail
      go_at_call 60; refine (next_any _ (cutB (cutB t)) (by have := cutB_len t; have := cutB_len (cutB t); unfold maxLen; omega) _ R8.out).mono ?_; rintro e9 w9 ⟨rfl, wm, fm, hwm⟩
      have R8 := Lib.hid (show Bk w9 w2.heap.size #[.string (bs (cutB (cutB (cutB t))))] 9 from by rw [hwm]; exact (R8.out.on fm).set_ 0 _)
      have Q := Lib.hid (show Bk w9 w1.heap.size #[.string (bs hw), .bool true, .bool false, .bool true, .bool false] 41 from by rw [hwm]; exact (Q.out.on fm).far (show w1.heap.size ≠ w2.heap.size by omega) _)
      have P4 := Lib.hid (show BkR w9 w.heap.size nilR from by rw [hwm]; exact ⟨(P4.out.h.on fm).far (show w.heap.size ≠ w2.heap.size by omega) _⟩)
      have F := Lib.hid (show Fuw w w9 from by rw [hwm]; exact fuwS (F.out.trans fm) (by omega))
      have X := Lib.hid (show BkR w9 B11 ⟨k, 0, cutA t, cutA (cutB t), [], []⟩ from by rw [hwm]; exact ⟨(X.out.h.on fm).far (show B11 ≠ w2.heap.size by omega) _⟩)
      clear hwm fm
      obtain ⟨Vd, rfl⟩ : ∃ z, z = w9 := ⟨w9, rfl⟩
      clear s1 s2 s3 s4
      have z1 := X.out.h.f 1
      have g1 := X.out.c1
      go_wp2_with fail
      go_at_call 63; refine (kwN_any _ _).mono ?_; rintro e9 w9 ⟨rfl, rfl⟩
      go_upto_region 13 with fail
      obtain ⟨Vb, hVb⟩ : ∃ Vb, Vb = (Vd.setCell ⟨B11, 1, none⟩ (.int .i64 (kwN (cutA (cutB (cutB t)))))) := ⟨_, rfl⟩
      rw [← hVb]
      have X := Lib.hid (show BkR Vb B11 ⟨k, kwN (cutA (cutB (cutB t))), cutA t, cutA (cutB t), [], []⟩ from by rw [hVb]; exact ⟨(X.out.h.set_ 1 _)⟩)
      have R8 := Lib.hid (show Bk Vb w2.heap.size _ _ from by rw [hVb]; exact (R8.out.far (show w2.heap.size ≠ B11 by omega) _))
      have Q := Lib.hid (show Bk Vb w1.heap.size #[.string (bs hw), .bool true, .bool false, .bool true, .bool false] 41 from by rw [hVb]; exact (Q.out.far (show w1.heap.size ≠ B11 by omega) _))
      have P4 := Lib.hid (show BkR Vb w.heap.size nilR from by rw [hVb]; exact ⟨(P4.out.h.far (show w.heap.size ≠ B11 by omega) _)⟩)
      have F := Lib.hid (show Fuw w Vb from by rw [hVb]; exact (fuwS F.out (by omega)))
      clear hVb
      clear z1 g1
      have s1 := Q.out.c 1
      have s2 := Q.out.c 2
      have s3 := Q.out.c 3
      have s4 := Q.out.c 4
      have x0 : Vb.cell? ⟨w.heap.size, 0, none⟩ = some (.int .i64 0) := P4.out.h.c 0
      have y0 := P4.out.h.f 0
      have x1 : Vb.cell? ⟨w.heap.size, 1, none⟩ = some (.int .i64 0) := P4.out.h.c 1
      have y1 := P4.out.h.f 1
      have x2 : Vb.cell? ⟨w.heap.size, 2, none⟩ = some (.string ⟨#[]⟩) := P4.out.h.c 2
      have y2 := P4.out.h.f 2
      have x3 : Vb.cell? ⟨w.heap.size, 3, none⟩ = some (.string ⟨#[]⟩) := P4.out.h.c 3
      have y3 := P4.out.h.f 3
      have x4 : Vb.cell? ⟨w.heap.size, 4, none⟩ = some (.string ⟨#[]⟩) := P4.out.h.c 4
      have y4 := P4.out.h.f 4
      have x5 : Vb.cell? ⟨w.heap.size, 5, none⟩ = some (.string ⟨#[]⟩) := P4.out.h.c 5
      have y5 := P4.out.h.f 5
      have g0 := X.out.c0; have g1 := X.out.c1; have g2 := X.out.c2; have g3 := X.out.c3; have g4 := X.out.c4; have g5 := X.out.c5
      go_wp2
      try simp only [Exit.inBlock, Exit.then]
      refine r_ret (tu := 4) rfl rfl rfl rfl (B := w.heap.size) (r := ⟨k, kwN (cutA (cutB (cutB t))), cutA t, cutA (cutB t), [], []⟩) ⟨bk_put6 (show Bk _ w.heap.size #[.int .i64 0, .int .i64 0, .string ⟨#[]⟩, .string ⟨#[]⟩, .string ⟨#[]⟩, .string ⟨#[]⟩] _ from P4.out.h) _ _ _ _ _ _⟩ ⟨by rw [HRD.out, HRF.out]; rfl, fuw_put6 F.out (Nat.le_refl _) _ _ _ _ _ _⟩
    · have HRF := Lib.hid (HR4.out (atoV (numW k s)) t)
      clear HR4
      go_wp2_with fail
      go_at_call 60; refine (next_any _ t (by unfold maxLen; omega) _ R8.out).mono ?_; rintro e9 w9 ⟨rfl, wm, fm, hwm⟩
      have R8 := Lib.hid (show Bk w9 w2.heap.size #[.string (bs (cutB t))] 9 from by rw [hwm]; exact (R8.out.on fm).set_ 0 _)
      have Q := Lib.hid (show Bk w9 w1.heap.size #[.string (bs hw), .bool false, .bool true, .bool false, .bool false] 41 from by rw [hwm]; exact (Q.out.on fm).far (show w1.heap.size ≠ w2.heap.size by omega) _)
      have P4 := Lib.hid (show BkR w9 w.heap.size nilR from by rw [hwm]; exact ⟨(P4.out.h.on fm).far (show w.heap.size ≠ w2.heap.size by omega) _⟩)
      have F := Lib.hid (show Fuw w w9 from by rw [hwm]; exact fuwS (F.out.trans fm) (by omega))
      clear hwm fm
      obtain ⟨V9, rfl⟩ : ∃ z, z = w9 := ⟨w9, rfl⟩
      go_upto_region 7 with fail
      obtain ⟨Va, hVa⟩ : ∃ Va, V9.alloc (.cells #[.int .i64 k, .int .i64 0, .string (bs (cutA t)), .string ⟨#[]⟩, .string ⟨#[]⟩, .string ⟨#[]⟩] 23) = Va := ⟨_, rfl⟩
      obtain ⟨B11, hB11⟩ : ∃ B11, B11 = V9.heap.size := ⟨_, rfl⟩
      have X := Lib.hid (show BkR Va B11 ⟨k, 0, cutA t, [], [], []⟩ from by rw [← hVa, hB11]; exact BkR.new V9 ⟨k, 0, cutA t, [], [], []⟩)
      have fa : Fuw V9 Va := by rw [← hVa]; exact fuwA _ _
      have hb8 := bk_lt R8.out
      rw [hVa, ← hB11]
      have hbb : w2.heap.size < B11 := by omega
      have R8 := Lib.hid (R8.out.on fa)
      have Q := Lib.hid (Q.out.on fa)
      have P4 := Lib.hid (P4.out.on fa)
      have F := Lib.hid (F.out.trans fa)
      clear hVa fa hb8 hB11
      have s1 := Q.out.c 1
      have s2 := Q.out.c 2
      have s3 := Q.out.c 3
      have s4 := Q.out.c 4
      go_wp2_with fail
      go_at_call 60; refine (next_any _ (cutB t) (by have := cutB_len t; have := cutB_len (cutB t); unfold maxLen; omega) _ R8.out).mono ?_; rintro e9 w9 ⟨rfl, wm, fm, hwm⟩
      have R8 := Lib.hid (show Bk w9 w2.heap.size #[.string (bs (cutB (cutB t)))] 9 from by rw [hwm]; exact (R8.out.on fm).set_ 0 _)
      have Q := Lib.hid (show Bk w9 w1.heap.size #[.string (bs hw), .bool false, .bool true, .bool false, .bool false] 41 from by rw [hwm]; exact (Q.out.on fm).far (show w1.heap.size ≠ w2.heap.size by omega) _)
      have P4 := Lib.hid (show BkR w9 w.heap.size nilR from by rw [hwm]; exact ⟨(P4.out.h.on fm).far (show w.heap.size ≠ w2.heap.size by omega) _⟩)
      have F := Lib.hid (show Fuw w w9 from by rw [hwm]; exact fuwS (F.out.trans fm) (by omega))
      have X := Lib.hid (show BkR w9 B11 ⟨k, 0, cutA t, [], [], []⟩ from by rw [hwm]; exact ⟨(X.out.h.on fm).far (show B11 ≠ w2.heap.size by omega) _⟩)
      clear hwm fm
      obtain ⟨Vc, rfl⟩ : ∃ z, z = w9 := ⟨w9, rfl⟩
      clear s1 s2 s3 s4
      go_wp2_with fail
      go_at_call 62; refine (endO_any _ _).mono ?_; rintro e9 w9 ⟨rfl, rfl⟩
      go_wp2_with fail
      go_at_call 60; refine (next_any _ (cutB (cutB t)) (by have := cutB_len t; have := cutB_len (cutB t); unfold maxLen; omega) _ R8.out).mono ?_; rintro e9 w9 ⟨rfl, wm, fm, hwm⟩
      have R8 := Lib.hid (show Bk w9 w2.heap.size #[.string (bs (cutB (cutB (cutB t))))] 9 from by rw [hwm]; exact (R8.out.on fm).set_ 0 _)
      have Q := Lib.hid (show Bk w9 w1.heap.size #[.string (bs hw), .bool false, .bool true, .bool false, .bool false] 41 from by rw [hwm]; exact (Q.out.on fm).far (show w1.heap.size ≠ w2.heap.size by omega) _)
      have P4 := Lib.hid (show BkR w9 w.heap.size nilR from by rw [hwm]; exact ⟨(P4.out.h.on fm).far (show w.heap.size ≠ w2.heap.size by omega) _⟩)
      have F := Lib.hid (show Fuw w w9 from by rw [hwm]; exact fuwS (F.out.trans fm) (by omega))
      have X := Lib.hid (show BkR w9 B11 ⟨k, 0, cutA t, [], [], []⟩ from by rw [hwm]; exact ⟨(X.out.h.on fm).far (show B11 ≠ w2.heap.size by omega) _⟩)
      clear hwm fm
      obtain ⟨Vd, rfl⟩ : ∃ z, z = w9 := ⟨w9, rfl⟩
      go_wp2_with fail
      go_at_call 62; refine (endO_any _ _).mono ?_; rintro e9 w9 ⟨rfl, rfl⟩
      have z4 := X.out.h.f 4
      have g4 := X.out.c4
      have z5 := X.out.h.f 5
      have g5 := X.out.c5
      go_upto_region 11 with fail
      obtain ⟨Vb, hVb⟩ : ∃ Vb, Vb = ((Vd.setCell ⟨B11, 4, none⟩ (.string (bs (endO (cutA (cutB t)))))).setCell ⟨B11, 5, none⟩ (.string (bs (endO (cutA (cutB (cutB t))))))) := ⟨_, rfl⟩
      rw [← hVb]
      have X := Lib.hid (show BkR Vb B11 ⟨k, 0, cutA t, [], endO (cutA (cutB t)), endO (cutA (cutB (cutB t)))⟩ from by rw [hVb]; exact ⟨((X.out.h.set_ 4 _).set_ 5 _)⟩)
      have R8 := Lib.hid (show Bk Vb w2.heap.size _ _ from by rw [hVb]; exact ((R8.out.far (show w2.heap.size ≠ B11 by omega) _).far (show w2.heap.size ≠ B11 by omega) _))
      have Q := Lib.hid (show Bk Vb w1.heap.size #[.string (bs hw), .bool false, .bool true, .bool false, .bool false] 41 from by rw [hVb]; exact ((Q.out.far (show w1.heap.size ≠ B11 by omega) _).far (show w1.heap.size ≠ B11 by omega) _))
      have P4 := Lib.hid (show BkR Vb w.heap.size nilR from by rw [hVb]; exact ⟨((P4.out.h.far (show w.heap.size ≠ B11 by omega) _).far (show w.heap.size ≠ B11 by omega) _)⟩)
      have F := Lib.hid (show Fuw w Vb from by rw [hVb]; exact (fuwS (fuwS F.out (by omega)) (by omega)))
      clear hVb
      clear z4 g4 z5 g5
      have s1 := Q.out.c 1
      have s2 := Q.out.c 2
      have s3 := Q.out.c 3
      have s4 := Q.out.c 4
      have x0 : Vb.cell? ⟨w.heap.size, 0, none⟩ = some (.int .i64 0) := P4.out.h.c 0
      have y0 := P4.out.h.f 0
      have x1 : Vb.cell? ⟨w.heap.size, 1, none⟩ = some (.int .i64 0) := P4.out.h.c 1
      have y1 := P4.out.h.f 1
      have x2 : Vb.cell? ⟨w.heap.size, 2, none⟩ = some (.string ⟨#[]⟩) := P4.out.h.c 2
      have y2 := P4.out.h.f 2
      have x3 : Vb.cell? ⟨w.heap.size, 3, none⟩ = some (.string ⟨#[]⟩) := P4.out.h.c 3
      have y3 := P4.out.h.f 3
      have x4 : Vb.cell? ⟨w.heap.size, 4, none⟩ = some (.string ⟨#[]⟩) := P4.out.h.c 4
      have y4 := P4.out.h.f 4
      have x5 : Vb.cell? ⟨w.heap.size, 5, none⟩ = some (.string ⟨#[]⟩) := P4.out.h.c 5
      have y5 := P4.out.h.f 5
      have g0 := X.out.c0; have g1 := X.out.c1; have g2 := X.out.c2; have g3 := X.out.c3; have g4 := X.out.c4; have g5 := X.out.c5
      go_wp2
      try simp only [Exit.inBlock, Exit.then]
      refine r_ret (tu := 4) rfl rfl rfl rfl (B := w.heap.size) (r := ⟨k, 0, cutA t, [], endO (cutA (cutB t)), endO (cutA (cutB (cutB t)))⟩) ⟨bk_put6 (show Bk _ w.heap.size #[.int .i64 0, .int .i64 0, .string ⟨#[]⟩, .string ⟨#[]⟩, .string ⟨#[]⟩, .string ⟨#[]⟩] _ from P4.out.h) _ _ _ _ _ _⟩ ⟨by rw [HRD.out, HRF.out]; rfl, fuw_put6 F.out (Nat.le_refl _) _ _ _ _ _ _⟩
    · have HRF := Lib.hid (HR4.out (atoV (numW k s)) t)
      clear HR4
      go_wp2_with fail
      go_at_call 60; refine (next_any _ t (by unfold maxLen; omega) _ R8.out).mono ?_; rintro e9 w9 ⟨rfl, wm, fm, hwm⟩
      have R8 := Lib.hid (show Bk w9 w2.heap.size #[.string (bs (cutB t))] 9 from by rw [hwm]; exact (R8.out.on fm).set_ 0 _)
      have Q := Lib.hid (show Bk w9 w1.heap.size #[.string (bs hw), .bool false, .bool false, .bool false, .bool true] 41 from by rw [hwm]; exact (Q.out.on fm).far (show w1.heap.size ≠ w2.heap.size by omega) _)
      have P4 := Lib.hid (show BkR w9 w.heap.size nilR from by rw [hwm]; exact ⟨(P4.out.h.on fm).far (show w.heap.size ≠ w2.heap.size by omega) _⟩)
      have F := Lib.hid (show Fuw w w9 from by rw [hwm]; exact fuwS (F.out.trans fm) (by omega))
      clear hwm fm
      obtain ⟨V9, rfl⟩ : ∃ z, z = w9 := ⟨w9, rfl⟩
      go_upto_region 7 with fail
      obtain ⟨Va, hVa⟩ : ∃ Va, V9.alloc (.cells #[.int .i64 k, .int .i64 0, .string (bs (cutA t)), .string ⟨#[]⟩, .string ⟨#[]⟩, .string ⟨#[]⟩] 23) = Va := ⟨_, rfl⟩
      obtain ⟨B11, hB11⟩ : ∃ B11, B11 = V9.heap.size := ⟨_, rfl⟩
      have X := Lib.hid (show BkR Va B11 ⟨k, 0, cutA t, [], [], []⟩ from by rw [← hVa, hB11]; exact BkR.new V9 ⟨k, 0, cutA t, [], [], []⟩)
      have fa : Fuw V9 Va := by rw [← hVa]; exact fuwA _ _
      have hb8 := bk_lt R8.out
      rw [hVa, ← hB11]
      have hbb : w2.heap.size < B11 := by omega
      have R8 := Lib.hid (R8.out.on fa)
      have Q := Lib.hid (Q.out.on fa)
      have P4 := Lib.hid (P4.out.on fa)
      have F := Lib.hid (F.out.trans fa)
      clear hVa fa hb8 hB11
      have s1 := Q.out.c 1
      have s2 := Q.out.c 2
      have s3 := Q.out.c 3
      have s4 := Q.out.c 4
      go_wp2_with fail
      go_at_call 60; refine (next_any _ (cutB t) (by have := cutB_len t; have := cutB_len (cutB t); unfold maxLen; omega) _ R8.out).mono ?_; rintro e9 w9 ⟨rfl, wm, fm, hwm⟩
      have R8 := Lib.hid (show Bk w9 w2.heap.size #[.string (bs (cutB (cutB t)))] 9 from by rw [hwm]; exact (R8.out.on fm).set_ 0 _)
      have Q := Lib.hid (show Bk w9 w1.heap.size #[.string (bs hw), .bool false, .bool false, .bool false, .bool true] 41 from by rw [hwm]; exact (Q.out.on fm).far (show w1.heap.size ≠ w2.heap.size by omega) _)
      have P4 := Lib.hid (show BkR w9 w.heap.size nilR from by rw [hwm]; exact ⟨(P4.out.h.on fm).far (show w.heap.size ≠ w2.heap.size by omega) _⟩)
      have F := Lib.hid (show Fuw w w9 from by rw [hwm]; exact fuwS (F.out.trans fm) (by omega))
      have X := Lib.hid (show BkR w9 B11 ⟨k, 0, cutA t, [], [], []⟩ from by rw [hwm]; exact ⟨(X.out.h.on fm).far (show B11 ≠ w2.heap.size by omega) _⟩)
      clear hwm fm
      obtain ⟨Vc, rfl⟩ : ∃ z, z = w9 := ⟨w9, rfl⟩
      clear s1 s2 s3 s4
      have HAT := Lib.hid (ato_any (cutA (cutB t)) (by have := cutB_len t; have := cutA_len (cutB t); omega) Vc (HGD.out _ F.out))
      rw [← HNW.out] at HAT
      go_wp2_with fail
      rw [← HNW.out]
      go_at_call 64; refine HAT.out.mono ?_; rintro e9 w9 ⟨v9, rfl, f9⟩
      have X := Lib.hid (X.out.on f9)
      have R8 := Lib.hid (R8.out.on f9)
      have Q := Lib.hid (Q.out.on f9)
      have P4 := Lib.hid (P4.out.on f9)
      have F := Lib.hid (F.out.trans f9)
      clear f9 HAT
      have z1 := X.out.h.f 1
      have g1 := X.out.c1
      go_upto_region 15 with fail
      obtain ⟨Vb, hVb⟩ : ∃ Vb, Vb = (w9.setCell ⟨B11, 1, none⟩ (.int .i64 (atoV (numW k s)))) := ⟨_, rfl⟩
      rw [← hVb]
      have X := Lib.hid (show BkR Vb B11 ⟨k, atoV (numW k s), cutA t, [], [], []⟩ from by rw [hVb]; exact ⟨(X.out.h.set_ 1 _)⟩)
      have R8 := Lib.hid (show Bk Vb w2.heap.size _ _ from by rw [hVb]; exact (R8.out.far (show w2.heap.size ≠ B11 by omega) _))
      have Q := Lib.hid (show Bk Vb w1.heap.size #[.string (bs hw), .bool false, .bool false, .bool false, .bool true] 41 from by rw [hVb]; exact (Q.out.far (show w1.heap.size ≠ B11 by omega) _))
      have P4 := Lib.hid (show BkR Vb w.heap.size nilR from by rw [hVb]; exact ⟨(P4.out.h.far (show w.heap.size ≠ B11 by omega) _)⟩)
      have F := Lib.hid (show Fuw w Vb from by rw [hVb]; exact (fuwS F.out (by omega)))
      clear hVb
      clear z1 g1
      have s1 := Q.out.c 1
      have s2 := Q.out.c 2
      have s3 := Q.out.c 3
      have s4 := Q.out.c 4
      have x0 : Vb.cell? ⟨w.heap.size, 0, none⟩ = some (.int .i64 0) := P4.out.h.c 0
      have y0 := P4.out.h.f 0
      have x1 : Vb.cell? ⟨w.heap.size, 1, none⟩ = some (.int .i64 0) := P4.out.h.c 1
      have y1 := P4.out.h.f 1
      have x2 : Vb.cell? ⟨w.heap.size, 2, none⟩ = some (.string ⟨#[]⟩) := P4.out.h.c 2
      have y2 := P4.out.h.f 2
      have x3 : Vb.cell? ⟨w.heap.size, 3, none⟩ = some (.string ⟨#[]⟩) := P4.out.h.c 3
      have y3 := P4.out.h.f 3
      have x4 : Vb.cell? ⟨w.heap.size, 4, none⟩ = some (.string ⟨#[]⟩) := P4.out.h.c 4
      have y4 := P4.out.h.f 4
      have x5 : Vb.cell? ⟨w.heap.size, 5, none⟩ = some (.string ⟨#[]⟩) := P4.out.h.c 5
      have y5 := P4.out.h.f 5
      have g0 := X.out.c0; have g1 := X.out.c1; have g2 := X.out.c2; have g3 := X.out.c3; have g4 := X.out.c4; have g5 := X.out.c5
      go_wp2
      try simp only [Exit.inBlock, Exit.then]
      refine r_ret (tu := 4) rfl rfl rfl rfl (B := w.heap.size) (r := ⟨k, atoV (numW k s), cutA t, [], [], []⟩) ⟨bk_put6 (show Bk _ w.heap.size #[.int .i64 0, .int .i64 0, .string ⟨#[]⟩, .string ⟨#[]⟩, .string ⟨#[]⟩, .string ⟨#[]⟩] _ from P4.out.h) _ _ _ _ _ _⟩ ⟨by rw [HRD.out, HRF.out]; rfl, fuw_put6 F.out (Nat.le_refl _) _ _ _ _ _ _⟩
end Go.Proofs.YtadnaakbhgacgaaDoor
