/-
  The reference of package value: SortRows and SameBag, for every list of rows in memory. Nothing that was there turns.
-/
import Derived.Test.YteonkiajgfkieaaGreatDoorRwE
namespace Go.Proofs.YteonkiajgfkieaaGreatDoor
open Go.RowKit

set_option maxHeartbeats 6400000 in
set_option maxRecDepth 100000 in
theorem rsort_any (L : List (List Vl)) (ao : Option Addr) (cap : Nat) (w : World) (hs : SlR w ao L cap) (hl : L.length ≤ 1000000) (hsh : ∀ x ∈ L, x.length ≤ 1000000 ∧ shL x = true) :
    Calls Tryz.prog 10 #[.slice ao L.length cap] w (RetRs w (sortR L)) := by
  have h2 := hs.le
  have h3 := hs.max
  unfold maxLen at h3
  have HS := Lib.hid hs
  have HL := Lib.hid (show ∀ x ∈ L, CopyAt x from fun x hx => copy_any x (hsh x hx).1 (hsh x hx).2)
  obtain ⟨i0, hi, hz0, hz1, hz2⟩ := info_parts infoR
  clear hs hsh
  go_enter Tryz.func10, Tryz.ntmps10
  go_wp2
  go_loopw [3, 4] (fun ov iv wr => ∃ (i : Nat) (ps : List RPm), iv = .int .i64 i ∧ i ≤ L.length ∧ wr.ownsRow w.heap.size 23 1 ov ps.length (ps.map hdr) ∧ Hid (ps.map Prod.fst = sortR (L.take i)) ∧ Hid (Kb w.heap.size ov.ownBlock wr (NstR ps)) ∧ Hid (Fuw w wr)) (fun _ iv _ => L.length - (RowKit.intOf iv).toNat)
  case atStart => exact ⟨0, [], rfl, Nat.zero_le _, World.ownsRow_nil _ _ _ _, rfl, Kb.triv NstR.nil, Fuw.refl _⟩
  case round =>
    obtain ⟨i, ps, rfl, hii, hown, HT, HK, hf⟩ := hrel
    generalize wr = wo at *
    have hps : ps.length = i := by
      have := congrArg List.length HT.out
      rw [List.length_map, sortR_length, List.length_take] at this
      omega
    have hpl : ps.length ≤ 1000000 := by omega
    obtain ⟨a3, c3, hov, -, -⟩ := slR_own hown HK.out.now
    subst hov
    by_cases hlt : i < L.length
    · obtain ⟨b, o, a1, k1, rfl, c0, s1⟩ := (HS.out.onw hf.out).get hlt
      have HC := Lib.hid (HL.out L[i] (List.getElem_mem hlt) a1 k1 wo s1)
      have HTT := Lib.hid (show sortR (L.take (i + 1)) = insR L[i] (ps.map Prod.fst) by rw [sortR_take L i hlt, HT.out])
      have HSR := Lib.hid (show SrtR (ps.map Prod.fst) by rw [HT.out]; exact sortR_srt _)
      have HPS := Lib.hid hps
      clear s1 HT hps
      generalize L[i] = x at *
      go_wp2_with fail
      go_at_call 30; refine HC.out.mono ?_; rintro e w1 ⟨v1, rfl, ⟨a2, k2, rfl, hk1⟩, f1⟩
      have hown1 := own_on hown f1
      have HK1 := Lib.hid ((HK.out.later f1).and (hk1.low (o := _) (hf.out.size) (fun k hk => .inl (hown.lt k hk).2)))
      have F1 := Lib.hid (hf.out.trans f1)
      have HB1 := Lib.hid hk1
      clear hown hk1 f1 c0 hf HK HC
      go_wp2_with (at_builtin; refine wpList_append_lies _ rfl (.tmp 20) (.tmp 22) 25 rfl w.heap.size 23 i0 _ 1 24 Tryz.underlying25 hi hz0 hz1 hz2 rfl (by decide) _ ps.length (ps.map hdr) rfl (hown1.alloc _) ⟨w1.heap.size, 0, none⟩ 1 1 [.slice a2 x.length k2] rfl rfl (World.news_of_block (heap_alloc_new w1 _)) (by intro u hu; rw [List.mem_singleton] at hu; subst hu; rfl) (by decide) (by unfold maxLen; omega) (by omega) (by have := F1.out.size; simp; omega) _ rfl ?_; intro g c4 w3 hown3 hgrow hat hg3)
      have hown4 : w3.ownsRow w.heap.size 23 1 (.slice (some ⟨g, 0, none⟩) (ps.length + 1) c4) (ps.length + 1) ((insK ps ps.length (x, a2, k2)).map hdr) := by
        rw [insK_end, List.map_append]; exact hown3
      have HG := Lib.hid (show w.heap.size ≤ g from (hown3.lt g rfl).1)
      have F3 := Lib.hid (show Fuw w w3 from Below.grown (F1.out.alloc _) hgrow (F1.out.alloc _).size (fun k hk => (hown1.lt k hk).1))
      have HK3 := Lib.hid (show Kb w.heap.size (some g) w3 (NstR (ps ++ [(x, a2, k2)])) from
        (((HK1.out.later (fuwA w1 _)).imp (fun _ h => NstR.snoc (p := (x, a2, k2)) h.1 h.2)).grown (v' := .slice (some ⟨g, 0, none⟩) (ps.length + 1) c4) hgrow (by
          rcases hat with h | h
          · exact .inl h.symm
          · exact .inr (congrArg some h))))
      clear hown3 hown1 hgrow hat HK1 F1 HB1
      go_wp2
      go_loopw [5] (fun kv wq => ∃ (k : Nat) (q : RPm), kv = .int .i64 k ∧ k ≤ ps.length ∧ wq.ownsRow w.heap.size 23 1 (.slice (some ⟨g, 0, none⟩) (ps.length + 1) c4) (ps.length + 1) ((insK ps k q).map hdr) ∧ Hid (∀ h : k < ps.length, 0 < ordL (ps[k]).1 x) ∧ Hid (Kb w.heap.size (some g) wq (NstR (ps ++ [(x, a2, k2)]))) ∧ Hid (Fuw w wq)) (fun kv _ => (RowKit.intOf kv).toNat)
      case atStart => exact ⟨ps.length, (x, a2, k2), rfl, Nat.le_refl _, hown4, (fun h => absurd h (Nat.lt_irrefl _)), HK3.out, F3.out⟩
      case round =>
        obtain ⟨k, q, rfl, hk, hownq, HA, HKq, hfq⟩ := hrel
        generalize wr = wq at *
        rcases Nat.eq_zero_or_pos k with h0 | h0
        · subst h0
          have hbE : ∀ h : 0 < 0, ordL (ps[0 - 1]'(by omega)).1 x ≤ 0 := fun h => absurd h (Nat.lt_irrefl _)
          have hownE := hownq
          have hkE := HKq.out
          have hffE := hfq.out
          have hcE := hownE.cellAt 0 (by omega)
          have hfE := hownE.frozenAt 0
          rw [hdr_at (by rw [insK_len]; omega)] at hcE
          have HOE := Lib.hid hownE
          have HKE := Lib.hid hkE
          have HFE := Lib.hid hffE
          have HD := Lib.hid (insK_done (k := 0) a2 k2 HSR.out hk hbE HA.out)
          clear hownE hkE hffE hbE HA
          obtain ⟨hv0, hcE'⟩ : ∃ u, wq.cell? ⟨g, 0, none⟩ = some u := ⟨_, hcE⟩
          clear hcE
          go_wp2
          go_roundw
          case rel => exact ⟨i + 1, insK ps 0 (x, a2, k2), by go_num, by omega, (by
            have h := own_put (k := 0) (q := ((x, a2, k2) : RPm)) HOE.out
            rw [insK_put ps 0 q _ hk] at h
            rw [insK_len]
            exact h), HD.out.trans HTT.out.symm, (kb_put HKE.out).imp (fun _ h p hp => h p (by rcases insK_mem hp with m | m
                                                                                               · exact List.mem_append.2 (.inl m)
                                                                                               · exact List.mem_append.2 (.inr (List.mem_singleton.2 m)))), fuwS HFE.out HG.out⟩
          case measure => simp [RowKit.intOf]; omega
        · obtain ⟨k', rfl⟩ : ∃ k', k = k' + 1 := ⟨k - 1, by omega⟩
          have hm : ps[k'] ∈ ps ++ [(x, a2, k2)] := List.mem_append.2 (.inl (List.getElem_mem (by omega)))
          have hc := hownq.cellAt k' (by omega)
          rw [hdr_at (by rw [insK_len]; omega), insK_before ps (k' + 1) k' q (by omega) hk] at hc
          have HS1 := Lib.hid (fun w' (h : Fuw wq w') => rrows_any ps[k'].1 x ps[k'].2.1 a2 ps[k'].2.2 k2 w' ((HKq.out.now _ hm).onw h) ((HKq.out.now (x, a2, k2) (List.mem_append.2 (.inr (List.mem_singleton.2 rfl)))).onw h))
          have HST := Lib.hid (insK_step ps k' q hk)
          have HP := Lib.hid (show ∀ h : k' < ps.length, ps[k'] = ps[k'] from fun _ => rfl)
          unfold hdr at hc
          by_cases hr : 0 < ordL ps[k'].1 x
          · have HA' := Lib.hid (show ∀ h : k' < ps.length, 0 < ordL ps[k'].1 x from fun _ => hr)
            generalize ordL ps[k'].1 x = r at *
            have hr' : decide (0 < r) = true := decide_eq_true hr
            go_wp2_with fail
            go_at_call 8; refine (HS1.out _ (Fuw.refl _)).mono ?_; rintro e w5 ⟨rfl, f5⟩
            have hown5 := own_on hownq f5
            have hc5 := cellOnw f5 hc
            have hd5 := hown5.cellAt (k' + 1) (by omega)
            rw [hdr_at (by rw [insK_len]; omega)] at hd5
            have hz5 := hown5.frozenAt (k' + 1)
            have HO5 := Lib.hid hown5
            have HK5 := Lib.hid (HKq.out.later f5)
            have HF5 := Lib.hid (hfq.out.trans f5)
            obtain ⟨hv0, hd5'⟩ : ∃ u, w5.cell? ⟨g, k' + 1, none⟩ = some u := ⟨_, hd5⟩
            clear hd5
            clear hownq hc f5 hown5 HKq hfq
            go_wp2
            go_roundw
            case rel => exact ⟨k', ps[k'], by go_num, by omega, (by
              have h := own_put (k := k' + 1) (q := ps[k']) HO5.out
              rw [HST.out] at h
              exact h), HA'.out, kb_put HK5.out, fuwS HF5.out HG.out⟩
            case measure => simp [RowKit.intOf]
          · have hr' : decide (0 < ordL ps[k'].1 x) = false := decide_eq_false hr
            have HBE := Lib.hid (show ∀ h : 0 < k' + 1, ordL (ps[k' + 1 - 1]'(by omega)).1 x ≤ 0 from fun _ => (show ordL (ps[k']'(by omega)).1 x ≤ 0 from Int.not_lt.1 hr))
            clear hr
            generalize ordL ps[k'].1 x = r at *
            go_wp2_with fail
            go_at_call 8; refine (HS1.out _ (Fuw.refl _)).mono ?_; rintro e w5 ⟨rfl, f5⟩
            have hownE := own_on hownq f5
            have hkE := HKq.out.later f5
            have hffE := hfq.out.trans f5
            have hbE := HBE.out
            clear hownq hc f5 HKq hfq HS1 HST HP HBE
            have hcE := hownE.cellAt (k' + 1) (by omega)
            have hfE := hownE.frozenAt (k' + 1)
            rw [hdr_at (by rw [insK_len]; omega)] at hcE
            have HOE := Lib.hid hownE
            have HKE := Lib.hid hkE
            have HFE := Lib.hid hffE
            have HD := Lib.hid (insK_done a2 k2 HSR.out hk hbE HA.out)
            clear hownE hkE hffE hbE HA
            obtain ⟨hv0, hcE'⟩ : ∃ u, w5.cell? ⟨g, k' + 1, none⟩ = some u := ⟨_, hcE⟩
            clear hcE
            go_wp2
            go_roundw
            case rel => exact ⟨i + 1, insK ps (k' + 1) (x, a2, k2), by go_num, by omega, (by
              have h := own_put (k := k' + 1) (q := ((x, a2, k2) : RPm)) HOE.out
              rw [insK_put ps (k' + 1) q _ hk] at h
              rw [insK_len]
              exact h), HD.out.trans HTT.out.symm, (kb_put HKE.out).imp (fun _ h p hp => h p (by rcases insK_mem hp with m | m
                                                                                                 · exact List.mem_append.2 (.inl m)
                                                                                                 · exact List.mem_append.2 (.inr (List.mem_singleton.2 m)))), fuwS HFE.out HG.out⟩
            case measure => simp [RowKit.intOf]; omega
    · have HE := Lib.hid (show ps.map Prod.fst = sortR L by rw [HT.out, List.take_of_length_le (by omega)])
      have HR : Hid (∃ ao cap, Value.slice a3 ps.length c3 = .slice ao (sortR L).length cap ∧ SlR wo ao (sortR L) cap) := by
        obtain ⟨a4, c4, e4, -, h4⟩ := slR_own hown HK.out.now
        rw [HE.out] at h4
        refine ⟨a4, c4, ?_, h4⟩
        rw [e4]
        have : ps.length = (sortR L).length := by rw [← HE.out, List.length_map]
        rw [this]
      clear hown hps
      go_wp2
      go_ret
      obtain ⟨ao, cap, he, hsl⟩ := HR.out
      exact ⟨ao, cap, by rw [he]; rfl, hsl, hf.out⟩

set_option maxHeartbeats 2000000 in
set_option maxRecDepth 100000 in
theorem rbag_any (L M : List (List Vl)) (ao bo : Option Addr) (ca cb : Nat) (w : World) (hs : SlR w ao L ca) (hs' : SlR w bo M cb) (hl : L.length ≤ 1000000) (hl' : M.length ≤ 1000000) (hsh : ∀ x ∈ L, x.length ≤ 1000000 ∧ shL x = true) (hsh' : ∀ x ∈ M, x.length ≤ 1000000 ∧ shL x = true) :
    Calls Tryz.prog 12 #[.slice ao L.length ca, .slice bo M.length cb] w (RwB w (bagR L M)) := by
  have H1 := Lib.hid (rsort_any L ao ca w hs hl hsh)
  have H2 := Lib.hid (fun w' (h : Fuw w w') => rsort_any M bo cb w' (hs'.onw h) hl' hsh')
  clear hs hs' hsh hsh'
  unfold bagR
  generalize sortR L = L' at *
  generalize sortR M = M' at *
  go_enter Tryz.func12, Tryz.ntmps12
  go_wp2_with fail
  go_at_call 10; refine H1.out.mono ?_; rintro e1 w1 ⟨a1, c1, rfl, s1, f1⟩
  have S1 := Lib.hid s1
  clear s1
  go_wp2_with fail
  go_at_call 10; refine (H2.out w1 f1).mono ?_; rintro e2 w2 ⟨a2, c2, rfl, s2, f2⟩
  have HC := Lib.hid (rsamer_any L' M' a1 a2 c1 c2 w2 (S1.out.onw f2) s2)
  have F2 := Lib.hid (Fuw.trans f1 f2)
  clear s2 f1 f2
  generalize decide (ordRR L' M' = 0) = r at *
  go_wp2_with fail
  go_at_call 9; refine HC.out.mono ?_; rintro e3 w3 ⟨rfl, f3⟩
  have F3 := Lib.hid (F2.out.trans f3)
  clear f3
  go_wp2
  go_ret
  exact ⟨rfl, F3.out⟩
end Go.Proofs.YteonkiajgfkieaaGreatDoor
