
/-
  Package column: whether a column is valid. Nothing that was there turns.
-/
import Derived.Test.YtpjikijfendmhaaGreatCoV
import Derived.Test.YtpjikijfendmhaaGreatCoV0
namespace Go.Proofs.YtpjikijfendmhaaGreat
open Go.RowKit

set_option maxHeartbeats 6400000 in
set_option maxRecDepth 100000 in
theorem valid_any (c : Cm) (A : CA) (w : World) (hC : CIn w c A) (hs : Sm c) : Calls Tryz.prog 31 #[colv c A] w (FwB w (valC c)) := by
  obtain ⟨w0, hw0⟩ : ∃ w0, w.alloc (.cells (colC c A) 24) = w0 := ⟨_, rfl⟩
  have B0 := Lib.hid (show Bk w0 w.heap.size (colC c A) 24 by rw [← hw0]; exact Bk.new _ _ _)
  have F0 := Lib.hid (show Fuw w w0 by rw [← hw0]; exact fuwA _ _)
  have HC := Lib.hid (hC.on F0.out)
  have HS := Lib.hid hs
  have H1 := Lib.hid (fun w' (hf : Fuw w0 w') => areids_any c.ns A.a1 A.k1 w' (slI_on hf HC.out.n))
  have H2 := Lib.hid (fun w' (hf : Fuw w0 w') => areids_any c.ts A.a3 A.k3 w' (slI_on hf HC.out.t))
  have H3 := Lib.hid (fun w' (hf : Fuw w0 w') => areids_any c.es A.a4 A.k4 w' (slI_on hf HC.out.e))
  have H4 := Lib.hid (fun w' (hf : Fuw w0 w') => areinc_any c.ns A.a1 A.k1 w' (slI_on hf HC.out.n))
  have H5 := Lib.hid (fun w' (hf : Fuw w0 w') => hbnd_any c A w' (HC.out.on hf))
  have H6 := Lib.hid (fun w' (hf : Fuw w0 w') (hb : bndB c = true) => ent_any c A w' (HC.out.on hf) hb hs.t)
  have H7 := Lib.hid (fun w' (hf : Fuw w0 w') => aredst_any c.es A.a4 A.k4 w' (slI_on hf HC.out.e) hs.e)
  have HI := Lib.hid (fun hb : bndB c = true => ent_i64 HC.out hb)
  obtain ⟨R, hR⟩ : ∃ R, R = valC c := ⟨_, rfl⟩
  have HR := Lib.hid (show R = (c.ns.all idB && c.ts.all idB && c.es.all idB && incI c.ns && bndB c && sorJ (entL c) && dstI c.es) from hR)
  rw [← hR]
  have d1 := B0.out.c 0; have d2 := B0.out.c 1; have d3 := B0.out.c 2; have d4 := B0.out.c 3
  unfold colv at H5 H6 ⊢
  unfold colC at d1 d2 d3 d4 hw0 H5 H6 ⊢
  simp only [List.getElem?_toArray, List.getElem?_cons_zero, List.getElem?_cons_succ] at d1 d2 d3 d4
  have D1 := Lib.hid d1; have D2 := Lib.hid d2; have D3 := Lib.hid d3; have D4 := Lib.hid d4
  clear hC hR hs
  generalize c.ns.all idB = q1 at *
  generalize c.ts.all idB = q2 at *
  generalize c.es.all idB = q3 at *
  generalize incI c.ns = q4 at *
  obtain ⟨q5, hq5⟩ : ∃ q5, bndB c = q5 := ⟨_, rfl⟩
  rw [hq5] at HR H5
  have HQ5 := Lib.hid hq5
  clear hq5
  generalize hL : entL c = L at *
  generalize dstI c.es = q7 at *
  clear hL
  go_enter Tryz.func31, Tryz.ntmps31
  go_upto_region 1 with fail
  clear hw0
  have FW0 := Lib.hid (Fuw.refl w0)
  go_wp2_with fail
  go_at_call 68; refine (H1.out _ FW0.out).mono ?_; rintro e1 w1 ⟨rfl, rfl⟩
  cases q1 with
  | false =>
    have HZ := Lib.hid (show R = false by rw [HR.out]; simp)
    go_wp2
    go_ret
    exact ⟨ret_bool HZ.out.symm, F0.out.trans FW0.out⟩
  | true =>
    go_wp2_with fail
    go_at_call 68; refine (H2.out _ FW0.out).mono ?_; rintro e2 w2 ⟨rfl, rfl⟩
    cases q2 with
    | false =>
      have HZ := Lib.hid (show R = false by rw [HR.out]; simp)
      go_wp2
      go_ret
      exact ⟨ret_bool HZ.out.symm, F0.out.trans FW0.out⟩
    | true =>
      go_wp2_with fail
      go_at_call 68; refine (H3.out _ FW0.out).mono ?_; rintro e3 w3 ⟨rfl, rfl⟩
      cases q3 with
      | false =>
        have HZ := Lib.hid (show R = false by rw [HR.out]; simp)
        go_wp2
        go_ret
        exact ⟨ret_bool HZ.out.symm, F0.out.trans FW0.out⟩
      | true =>
        go_wp2_with fail
        go_at_call 69; refine (H4.out _ FW0.out).mono ?_; rintro e4 w4 ⟨rfl, f4⟩
        have FW4 := Lib.hid (FW0.out.trans f4)
        clear f4
        replace d1 := cellOnw FW4.out D1.out; replace d2 := cellOnw FW4.out D2.out; replace d3 := cellOnw FW4.out D3.out; replace d4 := cellOnw FW4.out D4.out
        cases q4 with
        | false =>
          have HZ := Lib.hid (show R = false by rw [HR.out]; simp)
          go_wp2
          go_ret
          exact ⟨ret_bool HZ.out.symm, F0.out.trans FW4.out⟩
        | true =>
          go_wp2_with fail
          go_at_call 70; refine (H5.out _ FW4.out).mono ?_; rintro e5 w5 ⟨rfl, f5⟩
          have FW5 := Lib.hid (FW4.out.trans f5)
          clear f5
          replace d1 := cellOnw FW5.out D1.out; replace d2 := cellOnw FW5.out D2.out; replace d3 := cellOnw FW5.out D3.out; replace d4 := cellOnw FW5.out D4.out
          cases q5 with
          | false =>
            have HZ := Lib.hid (show R = false by rw [HR.out]; simp)
            go_wp2
            go_ret
            exact ⟨ret_bool HZ.out.symm, F0.out.trans FW5.out⟩
          | true =>
            go_wp2_with fail
            go_at_call 72; refine (H6.out _ FW5.out HQ5.out).mono ?_; rintro e6 w6 ⟨v, rfl, ho, f6⟩
            obtain ⟨a, cp, hv, -, hS⟩ := slJ_own ho (HI.out HQ5.out)
            subst hv
            have HSL := Lib.hid hS
            have FW6 := Lib.hid (FW5.out.trans f6)
            replace d1 := cellOnw FW6.out D1.out; replace d2 := cellOnw FW6.out D2.out; replace d3 := cellOnw FW6.out D3.out; replace d4 := cellOnw FW6.out D4.out
            clear f6 ho hS
            have H8 := Lib.hid (sorted_any L a cp w6 HSL.out)
            generalize sorJ L = q6 at *
            go_wp2_with fail
            go_at_call 71; refine H8.out.mono ?_; rintro e7 w7 ⟨rfl, f7⟩
            have FW7 := Lib.hid (FW6.out.trans f7)
            replace d1 := cellOnw FW7.out D1.out; replace d2 := cellOnw FW7.out D2.out; replace d3 := cellOnw FW7.out D3.out; replace d4 := cellOnw FW7.out D4.out
            clear f7
            cases q6 with
            | false =>
              have HZ := Lib.hid (show R = false by rw [HR.out]; simp)
              go_wp2
              go_ret
              exact ⟨ret_bool HZ.out.symm, F0.out.trans FW7.out⟩
            | true =>
              have HZ := Lib.hid (show R = q7 by rw [HR.out]; simp)
              go_wp2_with fail
              go_at_call 61; refine (H7.out _ FW7.out).mono ?_; rintro e8 w8 ⟨rfl, f8⟩
              have FW8 := Lib.hid (FW7.out.trans f8)
              clear f8
              go_wp2
              go_ret
              exact ⟨ret_bool HZ.out.symm, F0.out.trans FW8.out⟩
end Go.Proofs.YtpjikijfendmhaaGreat
