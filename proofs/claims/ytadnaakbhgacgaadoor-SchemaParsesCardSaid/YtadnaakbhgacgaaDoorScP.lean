/-
  Package schema: Parse, walked. Condition: the library's variables read as laid (Good). Nothing that was there turns.
-/
import Derived.Test.YtadnaakbhgacgaaDoorScO
namespace Go.Proofs.YtadnaakbhgacgaaDoor
open Go.RowKit
open Go.Lib (itoa join)

theorem parG_s (s : List UInt8) (i : Nat) (h : i ≤ 7) : parG s (8 - i) = match hitR (i : Int) s with | some r => some r | none => parG s (8 - (i + 1)) := by
  have e : 8 - i = (7 - i) + 1 := by omega
  rw [e]
  unfold parG
  rw [show (7 - ((7 - i : Nat) : Int)) = (i : Int) by omega, show 8 - (i + 1) = 7 - i by omega]
  rcases 7 - i with _ | n <;> rfl
set_option maxHeartbeats 6400000 in
set_option maxRecDepth 100000 in
theorem parse_any (s : List UInt8) (hs : s.length ≤ 140737488355328) (w : World) (G : Good w) : Calls Tryd.prog 22 #[.string (bs s)] w (RetP w (parR s)) := by
  have HGD := Lib.hid (fun w' (hf : Fuw w w') => G.on hf)
  obtain ⟨W, hW⟩ : ∃ W, w.alloc (.cells #[.int .i64 0, .int .i64 0, .string ⟨#[]⟩, .string ⟨#[]⟩, .string ⟨#[]⟩, .string ⟨#[]⟩] 23) = W := ⟨_, rfl⟩
  have P2 := Lib.hid (show BkR W w.heap.size nilR from by rw [← hW]; exact BkR.new w nilR)
  have F0 := Lib.hid (show Fuw w W from by rw [← hW]; exact fuwA _ _)
  clear G
  go_enter Tryd.func22, Tryd.ntmps22
  go_upto_region 1 with fail
  clear hW
  go_wp2
  go_loopw [4] (fun iv wr => ∃ i : Nat, iv = .int .i64 i ∧ 1 ≤ i ∧ i ≤ 8 ∧ Hid (Fuw w wr) ∧ Hid (BkR wr w.heap.size nilR) ∧ Hid (parR s = parG s (8 - i))) (fun iv _ => 8 - (RowKit.intOf iv).toNat)
  case atStart => exact ⟨1, rfl, Nat.le_refl _, by omega, F0, P2, Lib.hid rfl⟩
  case round =>
    obtain ⟨i, rfl, h1, h8, hf, hp, HV⟩ := hrel
    by_cases hlt : i ≤ 7
    · have hltI : (i : Int) ≤ 7 := by omega
      have hK : isK (i : Int) = true := by unfold isK; rw [decide_eq_true (by omega), decide_eq_true (by omega)]; rfl
      have HR := Lib.hid (rd_any (i : Int) hK s hs wr (HGD.out _ hf.out))
      have HS := Lib.hid (HV.out.trans (parG_s s i hlt))
      have HIT := Lib.hid (show hitR (i : Int) s = match readR (i : Int) (atoV (numW (i : Int) s)) s with | some r => if txtR r = s then some r else none | none => none from rfl)
      have HIN := Lib.hid (fun r (h : readR (i : Int) (atoV (numW (i : Int) s)) s = some r) => rd_in hK hs h)
      clear HV hK
      cases ho : readR (i : Int) (atoV (numW (i : Int) s)) s with
      | none =>
        rw [ho] at HR HIT
        have HD := Lib.hid (show parR s = parG s (8 - (i + 1)) from by rw [HS.out, HIT.out])
        clear HS HIT HIN ho
        have HR := Lib.hid (show Calls Tryd.prog 44 #[.int .i64 (i : Int), .string (bs s)] wr (fun e w' => e = .returned (.tuple #[.agg #[.int .i64 0, .int .i64 0, .string ⟨#[]⟩, .string ⟨#[]⟩, .string ⟨#[]⟩, .string ⟨#[]⟩], .bool false]) ∧ Fuw wr w') from HR.out)
        go_wp2_with fail
        go_at_call 44; refine HR.out.mono ?_; rintro e1 w1 ⟨rfl, f1⟩
        have F := Lib.hid (hf.out.trans (f1.trans (fuwA w1 (.cells #[.int .i64 0, .int .i64 0, .string ⟨#[]⟩, .string ⟨#[]⟩, .string ⟨#[]⟩, .string ⟨#[]⟩] 23))))
        have P := Lib.hid (hp.out.on (f1.trans (fuwA w1 (.cells #[.int .i64 0, .int .i64 0, .string ⟨#[]⟩, .string ⟨#[]⟩, .string ⟨#[]⟩, .string ⟨#[]⟩] 23))))
        clear f1 hf hp HR
        go_wp2
        go_roundw
        case rel => exact ⟨i + 1, by go_num, by omega, by omega, F, P, HD⟩
        case measure => simp [RowKit.intOf]; omega
      | some r =>
        rw [ho] at HR HIT
        have hri := HIN.out r ho
        have HR := Lib.hid (show Calls Tryd.prog 44 #[.int .i64 (i : Int), .string (bs s)] wr (fun e w' => e = .returned (.tuple #[.agg #[.int .i64 r.kd, .int .i64 r.nn, .string (bs r.nm), .string (bs r.ky), .string (bs r.fr), .string (bs r.tt)], .bool true]) ∧ Fuw wr w') from HR.out)
        have HTX := Lib.hid (fun w' (hf : Fuw w w') => text_any r hri w' (HGD.out w' hf))
        unfold rlv at HTX
        clear HIN ho hri
        go_wp2_with fail
        go_at_call 44; refine HR.out.mono ?_; rintro e1 w1 ⟨rfl, f1⟩
        go_upto_region 5 with fail
        obtain ⟨V, hV⟩ : ∃ V, w1.alloc (.cells #[.int .i64 r.kd, .int .i64 r.nn, .string (bs r.nm), .string (bs r.ky), .string (bs r.fr), .string (bs r.tt)] 23) = V := ⟨_, rfl⟩
        have X := Lib.hid (show BkR V w1.heap.size r from by rw [← hV]; exact BkR.new w1 r)
        have f2 : Fuw w1 V := by rw [← hV]; exact fuwA _ _
        rw [hV]
        clear hV
        have F := Lib.hid (hf.out.trans (f1.trans f2))
        have P := Lib.hid (hp.out.on (f1.trans f2))
        clear f1 f2 hf hp HR
        have c0 := X.out.c0; have c1 := X.out.c1; have c2 := X.out.c2; have c3 := X.out.c3; have c4 := X.out.c4; have c5 := X.out.c5
        by_cases ht : txtR r = s
        · have HD := Lib.hid (show parR s = some r from by rw [HS.out, HIT.out]; simp only [if_pos ht])
          have HTT := Lib.hid (show ∀ w' (hf : Fuw w w'), Calls Tryd.prog 10 #[.agg #[.int .i64 r.kd, .int .i64 r.nn, .string (bs r.nm), .string (bs r.ky), .string (bs r.fr), .string (bs r.tt)]] w' (FwT w' (bs s)) from fun w' hf => by have q := HTX.out w' hf; rwa [ht] at q)
          have he : ((bs s).toList == (bs s).toList) = true := beq_self_eq_true _
          clear HTX HS HIT ht
          go_wp2_with fail
          go_at_call 10; refine (HTT.out _ F.out).mono ?_; rintro e2 w2 ⟨rfl, f2⟩
          have X := Lib.hid (X.out.on f2)
          have P := Lib.hid (P.out.on f2)
          have F := Lib.hid (F.out.trans f2)
          clear f2 c0 c1 c2 c3 c4 c5 HTT
          have c0 := X.out.c0; have c1 := X.out.c1; have c2 := X.out.c2; have c3 := X.out.c3; have c4 := X.out.c4; have c5 := X.out.c5
          have x0 : w2.cell? ⟨w.heap.size, 0, none⟩ = some (.int .i64 0) := P.out.h.c 0
          have y0 := P.out.h.f 0
          have x1 : w2.cell? ⟨w.heap.size, 1, none⟩ = some (.int .i64 0) := P.out.h.c 1
          have y1 := P.out.h.f 1
          have x2 : w2.cell? ⟨w.heap.size, 2, none⟩ = some (.string ⟨#[]⟩) := P.out.h.c 2
          have y2 := P.out.h.f 2
          have x3 : w2.cell? ⟨w.heap.size, 3, none⟩ = some (.string ⟨#[]⟩) := P.out.h.c 3
          have y3 := P.out.h.f 3
          have x4 : w2.cell? ⟨w.heap.size, 4, none⟩ = some (.string ⟨#[]⟩) := P.out.h.c 4
          have y4 := P.out.h.f 4
          have x5 : w2.cell? ⟨w.heap.size, 5, none⟩ = some (.string ⟨#[]⟩) := P.out.h.c 5
          have y5 := P.out.h.f 5
          go_wp2
          try simp only [Exit.inBlock, Exit.then]
          refine r_ret (tu := 4) rfl rfl rfl rfl (B := w.heap.size) (r := r) ⟨bk_put6 (show Bk _ w.heap.size #[.int .i64 0, .int .i64 0, .string ⟨#[]⟩, .string ⟨#[]⟩, .string ⟨#[]⟩, .string ⟨#[]⟩] _ from P.out.h) _ _ _ _ _ _⟩ ⟨by rw [HD.out]; rfl, fuw_put6 F.out (Nat.le_refl _) _ _ _ _ _ _⟩
        · have HD := Lib.hid (show parR s = parG s (8 - (i + 1)) from by rw [HS.out, HIT.out]; simp only [if_neg ht])
          have he : ((bs (txtR r)).toList == (bs s).toList) = false := by rw [bs_list, bs_list]; simpa using ht
          clear HS HIT ht
          generalize bs (txtR r) = tx at *
          go_wp2_with fail
          go_at_call 10; refine (HTX.out _ F.out).mono ?_; rintro e2 w2 ⟨rfl, f2⟩
          have P := Lib.hid (P.out.on f2)
          have F := Lib.hid (F.out.trans f2)
          clear f2 c0 c1 c2 c3 c4 c5 HTX X
          go_wp2
          go_roundw
          case rel => exact ⟨i + 1, by go_num, by omega, by omega, F, P, HD⟩
          case measure => simp [RowKit.intOf]; omega
    · have HD := Lib.hid (show parR s = none from by rw [HV.out, show 8 - i = 0 by omega]; rfl)
      have hltI : ¬ (i : Int) ≤ 7 := by omega
      have x0 : wr.cell? ⟨w.heap.size, 0, none⟩ = some (.int .i64 0) := hp.out.h.c 0
      have y0 := hp.out.h.f 0
      have x1 : wr.cell? ⟨w.heap.size, 1, none⟩ = some (.int .i64 0) := hp.out.h.c 1
      have y1 := hp.out.h.f 1
      have x2 : wr.cell? ⟨w.heap.size, 2, none⟩ = some (.string ⟨#[]⟩) := hp.out.h.c 2
      have y2 := hp.out.h.f 2
      have x3 : wr.cell? ⟨w.heap.size, 3, none⟩ = some (.string ⟨#[]⟩) := hp.out.h.c 3
      have y3 := hp.out.h.f 3
      have x4 : wr.cell? ⟨w.heap.size, 4, none⟩ = some (.string ⟨#[]⟩) := hp.out.h.c 4
      have y4 := hp.out.h.f 4
      have x5 : wr.cell? ⟨w.heap.size, 5, none⟩ = some (.string ⟨#[]⟩) := hp.out.h.c 5
      have y5 := hp.out.h.f 5
      go_wp2
      try simp only [Exit.inBlock, Exit.then]
      refine r_ret (tu := 4) rfl rfl rfl rfl (B := w.heap.size) (r := nilR) ⟨bk_put6 (show Bk _ w.heap.size #[.int .i64 0, .int .i64 0, .string ⟨#[]⟩, .string ⟨#[]⟩, .string ⟨#[]⟩, .string ⟨#[]⟩] _ from hp.out.h) _ _ _ _ _ _⟩ ⟨by rw [HD.out]; rfl, fuw_put6 hf.out (Nat.le_refl _) _ _ _ _ _ _⟩
end Go.Proofs.YtadnaakbhgacgaaDoor
