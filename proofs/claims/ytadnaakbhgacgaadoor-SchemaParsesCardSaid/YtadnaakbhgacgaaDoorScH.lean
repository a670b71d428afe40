/-
  Package schema: Add and Drop. Nothing that was there turns.
-/
import Derived.Test.YtadnaakbhgacgaaDoorScG
namespace Go.Proofs.YtadnaakbhgacgaaDoor
open Go.RowKit

theorem own_low {w : World} {base base' e size : Nat} {v : Value} {n : Nat} {xs : List Value} (h : w.ownsRow base e size v n xs) (hb : base' ≤ base) : w.ownsRow base' e size v n xs :=
  ⟨h.1, h.2.imp id fun ⟨g, cap, cur, e1, h1, h2⟩ => ⟨g, cap, cur, e1, Nat.le_trans hb h1, h2⟩⟩
theorem bkA2 (w : World) (A : Obj) (cs : Array Value) (T : TypeId) : Bk ((w.alloc A).alloc (.cells cs T)) (w.heap.size + 1) cs T := by
  have q := Bk.new (w.alloc A) cs T
  rwa [asz] at q
theorem slR_take {w : World} {ao : Option Addr} {s : List Rl} {cap : Nat} (h : SlR w ao s cap) (k : Nat) : SlR w ao (s.take k) cap :=
  ⟨by rw [List.length_take]; have := h.le; omega, h.max, h.nil, fun hp => by
    rw [List.length_take] at hp
    obtain ⟨b, o, e, hc⟩ := h.at_ (by omega)
    refine ⟨b, o, e, fun i hi => ?_⟩
    have hi' : i < s.length := by rw [List.length_take] at hi; omega
    rw [List.getElem_take]; exact hc i hi'⟩
theorem slR_drop {w : World} {ad : Addr} {s : List Rl} {cap k : Nat} (h : SlR w (some ad) s cap) (hk : k ≤ s.length) : SlR w (if cap = k then some ad else some (ad.add (k * 6))) (s.drop k) (cap - k) := by
  refine ⟨by rw [List.length_drop]; have := h.le; omega, by have := h.max; omega, (fun q => by split at q <;> cases q), fun hp => ?_⟩
  rw [List.length_drop] at hp
  obtain ⟨b, o, e, hc⟩ := h.at_ (by omega)
  cases e
  have hle := h.le
  refine ⟨b, o + k * 6, by rw [if_neg (by omega)]; exact congrArg some (Go.WideShapes.add_plain _ _ _), fun i hi => ?_⟩
  have hi' : k + i < s.length := by rw [List.length_drop] at hi; omega
  rw [List.getElem_drop, Nat.add_assoc, ← Nat.add_mul]; exact hc (k + i) hi'
theorem slR_drop_t {w : World} {ad : Addr} {s : List Rl} {cap : Nat} (h : SlR w (some ad) s cap) (hk : cap ≤ s.length) : SlR w (some ad) (s.drop cap) 0 := by
  have q := slR_drop h hk
  rw [if_pos rfl, Nat.sub_self] at q
  exact q
theorem slR_drop_f {w : World} {ad : Addr} {s : List Rl} {cap k : Nat} (h : SlR w (some ad) s cap) (hk : k ≤ s.length) (hne : ¬ cap = k) : SlR w (some (ad.add (k * 6))) (s.drop k) (cap - k) := by
  have q := slR_drop h hk
  rw [if_neg hne] at q
  exact q
theorem slR_one {w : World} {B : Nat} {r : Rl} (h : BkR w B r) (hi : RIn r) : SlR w (some ⟨B, 0, none⟩) [r] 1 :=
  ⟨Nat.le_refl _, by unfold maxLen; decide, (fun q => by cases q), fun _ => ⟨B, 0, rfl, fun i hi' => by
    obtain rfl : i = 0 := by simpa using hi'
    exact RC.of_bk h.h hi⟩⟩
theorem cat3 (a b c : List Rl) (na nb nc : Nat) (ea : a.length = na) (eb : b.length = nb) (ec : c.length = nc) (ao bo co : Option Addr) (ka kb kc g : Nat) (w : World) (T : TypeId)
    (hk : Bk w g #[.slice ao na ka, .slice bo nb kb, .slice co nc kc] T) (ha : SlR w ao a ka) (hb : SlR w bo b kb) (hc : SlR w co c kc) (la : na ≤ 1000) (lb : nb ≤ 1000) (lc : nc ≤ 1000) :
    Calls Tryd.prog 41 #[.slice (some ⟨g, 0, none⟩) 3 3] w (RetO w (a ++ (b ++ c))) := by
  subst ea eb ec
  have q := cat_any [(a, ao, ka), (b, bo, kb), (c, co, kc)] g 3 w hk.lt (fun i hi => by
    rw [hk.c i]
    match i, hi with
    | 0, _ => rfl
    | 1, _ => rfl
    | 2, _ => rfl) (fun i hi => by
    match i, hi with
    | 0, _ => exact ha
    | 1, _ => exact hb
    | 2, _ => exact hc) (fun p hp => by
    simp at hp
    rcases hp with rfl | rfl | rfl
    · exact la
    · exact lb
    · exact lc) (by simp)
  have e : [(a, ao, ka), (b, bo, kb), (c, co, kc)].flatMap Prod.fst = a ++ (b ++ c) := by simp
  rw [e] at q
  exact q
theorem cat2 (a b : List Rl) (na nb : Nat) (ea : a.length = na) (eb : b.length = nb) (ao bo : Option Addr) (ka kb g : Nat) (w : World) (T : TypeId)
    (hk : Bk w g #[.slice ao na ka, .slice bo nb kb] T) (ha : SlR w ao a ka) (hb : SlR w bo b kb) (la : na ≤ 1000) (lb : nb ≤ 1000) :
    Calls Tryd.prog 41 #[.slice (some ⟨g, 0, none⟩) 2 2] w (RetO w (a ++ b)) := by
  subst ea eb
  have q := cat_any [(a, ao, ka), (b, bo, kb)] g 2 w hk.lt (fun i hi => by
    rw [hk.c i]
    match i, hi with
    | 0, _ => rfl
    | 1, _ => rfl) (fun i hi => by
    match i, hi with
    | 0, _ => exact ha
    | 1, _ => exact hb) (fun p hp => by
    simp at hp
    rcases hp with rfl | rfl
    · exact la
    · exact lb) (by simp)
  have e : [(a, ao, ka), (b, bo, kb)].flatMap Prod.fst = a ++ b := by simp
  rw [e] at q
  exact q
theorem valS_len {s : List Rl} (h : valS s = true) : s.length ≤ 40 := (valS_iff.1 h).1
theorem addE_0 {s : List Rl} {r : Rl} (h : addE s r = 0) : fndE s r = 0 ∧ hasR s r = false ∧ s.length < 40 := by
  unfold addE at h
  unfold fndE
  split at h
  · rename_i hv
    rw [if_pos hv]
    have hl := valS_len hv
    split at h
    · rename_i hc
      split at h
      · cases h
      · rename_i hh
        split at h
        · cases h
        · exact ⟨hc, by simpa using hh, by omega⟩
    · rename_i hc; exact absurd h hc
  · cases h
theorem drpE_0 {s : List Rl} {r : Rl} (h : drpE s r = 0) : fndE s r = 0 ∧ hasR s r = true ∧ s.length ≤ 40 ∧ IncR s := by
  unfold drpE at h
  unfold fndE
  split at h
  · rename_i hv
    rw [if_pos hv]
    split at h
    · rename_i hc
      split at h
      · rename_i hh; exact ⟨hc, hh, valS_len hv, (valS_iff.1 hv).2.2⟩
      · cases h
    · rename_i hc; exact absurd h hc
  · cases h
theorem addE_n {s : List Rl} {r : Rl} (h : addE s r ≠ 0) : (fndE s r ≠ 0 ∧ addE s r = fndE s r) ∨ (fndE s r = 0 ∧ hasR s r = true ∧ addE s r = 7) ∨ (fndE s r = 0 ∧ hasR s r = false ∧ s.length = 40 ∧ addE s r = 20) := by
  unfold addE fndE at *
  split
  · rename_i hv
    rw [if_pos hv] at h
    split
    · rename_i hc
      rw [if_pos hc] at h
      split
      · rename_i hh; exact .inr (.inl ⟨hc, hh, rfl⟩)
      · rename_i hh
        rw [if_neg hh] at h
        split
        · rename_i hl; exact .inr (.inr ⟨hc, by simpa using hh, hl, rfl⟩)
        · rename_i hl; rw [if_neg hl] at h; exact absurd rfl h
    · rename_i hc; exact .inl ⟨hc, rfl⟩
  · exact .inl ⟨by decide, rfl⟩
theorem drpE_n {s : List Rl} {r : Rl} (h : drpE s r ≠ 0) : (fndE s r ≠ 0 ∧ drpE s r = fndE s r) ∨ (fndE s r = 0 ∧ hasR s r = false ∧ drpE s r = 23) := by
  unfold drpE fndE at *
  split
  · rename_i hv
    rw [if_pos hv] at h
    split
    · rename_i hc
      rw [if_pos hc] at h
      split
      · rename_i hh; rw [if_pos hh] at h; exact absurd rfl h
      · rename_i hh; exact .inr ⟨hc, by simpa using hh, rfl⟩
    · rename_i hc; exact .inl ⟨hc, rfl⟩
  · exact .inl ⟨by decide, rfl⟩
theorem hasR_at {s : List Rl} {r : Rl} (h : hasR s r = true) : atR s r < s.length := by
  rcases Nat.lt_or_ge (atR s r) s.length with k | k
  · exact k
  · exfalso
    have e : (s.takeWhile fun x => decide (ordR x r < 0)) = s := by
      have hl : (s.takeWhile fun x => decide (ordR x r < 0)).length = s.length := Nat.le_antisymm (atR_le s r) k
      exact (List.takeWhile_sublist _).eq_of_length hl
    unfold hasR at h
    obtain ⟨x, hx, hz⟩ := List.any_eq_true.1 h
    rw [← e] at hx
    have hq : ∀ (l : List Rl) (x : Rl), x ∈ (l.takeWhile fun x => decide (ordR x r < 0)) → ordR x r < 0 := by
      intro l
      induction l with
      | nil => intro x hx; cases hx
      | cons y t ih =>
        intro x hx
        rw [List.takeWhile_cons] at hx
        split at hx
        · rename_i hy
          rcases List.mem_cons.1 hx with e | e
          · rw [e]; simpa using hy
          · exact ih x e
        · cases hx
    have := hq s x hx
    have hz' : ordR x r = 0 := by simpa using hz
    omega
/-- What Add and Drop return: the rules in a row of the call's own, the error. -/
def RetA (w : World) (l : List Rl) (c : Int) (e : Ending) (w' : World) : Prop := ∃ v, e = .returned (.tuple #[v, .int .i64 c]) ∧ w'.ownsRow w.heap.size 23 6 v l.length (csR l) ∧ Fuw w w'
set_option maxHeartbeats 6400000 in
set_option maxRecDepth 100000 in
theorem add_f (s : List Rl) (r : Rl) (ao : Option Addr) (cap : Nat) (w : World) (hs : SlR w ao s cap) (hr : RIn r) (he : addE s r ≠ 0) : Calls Tryd.prog 15 #[.slice ao s.length cap, rlv r] w (RetA w [] (addE s r)) := by
  have HF := Lib.hid (fun w' (hf : Fuw w w') => fnd_any s r ao cap w' (slR_on hf hs) hr)
  have hln := hs.len
  obtain ⟨W, hW⟩ : ∃ W, w.alloc (.cells #[.int .i64 r.kd, .int .i64 r.nn, .string (bs r.nm), .string (bs r.ky), .string (bs r.fr), .string (bs r.tt)] 23) = W := ⟨_, rfl⟩
  have P0 := Lib.hid (show BkR W w.heap.size r from by rw [← hW]; exact BkR.new w r)
  have F0 := Lib.hid (show Fuw w W from by rw [← hW]; exact fuwA _ _)
  unfold RetF at HF
  clear hs hr
  have hE := addE_n he
  clear he
  generalize addE s r = c at *
  generalize atR s r = k at *
  unfold rlv at HF ⊢
  rcases hE with ⟨h1, h2⟩ | ⟨h1, h2, h3⟩ | ⟨h1, h2, h3, h4⟩
  · subst h2
    rw [if_neg h1] at HF
    have hc : (fndE s r != 0) = true := by simpa using h1
    generalize fndE s r = c at *
    clear h1
    go_enter Tryd.func15, Tryd.ntmps15
    go_upto_region 1 with fail
    clear hW
    have c0 := P0.out.c0; have c1 := P0.out.c1; have c2 := P0.out.c2; have c3 := P0.out.c3; have c4 := P0.out.c4; have c5 := P0.out.c5
    go_wp2_with fail
    go_at_call 40; refine (HF.out _ F0.out).mono ?_; rintro e1 w1 ⟨rfl, f1⟩
    have P1 := Lib.hid (P0.out.on f1)
    have F1 := Lib.hid (F0.out.trans f1)
    clear c0 c1 c2 c3 c4 c5 f1 P0 F0
    go_wp2
    go_ret2
    exact ⟨_, rfl, World.ownsRow_nil _ _ _ _, F1.out⟩
  · subst h3
    rw [if_pos h1, h2] at HF
    clear h1 h2
    go_enter Tryd.func15, Tryd.ntmps15
    go_upto_region 1 with fail
    clear hW
    have c0 := P0.out.c0; have c1 := P0.out.c1; have c2 := P0.out.c2; have c3 := P0.out.c3; have c4 := P0.out.c4; have c5 := P0.out.c5
    go_wp2_with fail
    go_at_call 40; refine (HF.out _ F0.out).mono ?_; rintro e1 w1 ⟨rfl, f1⟩
    have P1 := Lib.hid (P0.out.on f1)
    have F1 := Lib.hid (F0.out.trans f1)
    clear c0 c1 c2 c3 c4 c5 f1 P0 F0
    go_wp2
    go_ret2
    exact ⟨_, rfl, World.ownsRow_nil _ _ _ _, F1.out⟩
  · subst h4
    rw [if_pos h1, h2] at HF
    have hlI : ((s.length : Int) == 40) = true := by rw [h3]; rfl
    clear h1 h2 h3
    go_enter Tryd.func15, Tryd.ntmps15
    go_upto_region 1 with fail
    clear hW
    have c0 := P0.out.c0; have c1 := P0.out.c1; have c2 := P0.out.c2; have c3 := P0.out.c3; have c4 := P0.out.c4; have c5 := P0.out.c5
    go_wp2_with fail
    go_at_call 40; refine (HF.out _ F0.out).mono ?_; rintro e1 w1 ⟨rfl, f1⟩
    have P1 := Lib.hid (P0.out.on f1)
    have F1 := Lib.hid (F0.out.trans f1)
    clear c0 c1 c2 c3 c4 c5 f1 P0 F0
    go_wp2
    go_ret2
    exact ⟨_, rfl, World.ownsRow_nil _ _ _ _, F1.out⟩
set_option maxHeartbeats 6400000 in
set_option maxRecDepth 100000 in
theorem add_t (s : List Rl) (r : Rl) (ao : Option Addr) (cap : Nat) (w : World) (hs : SlR w ao s cap) (hr : RIn r) (he : addE s r = 0) : Calls Tryd.prog 15 #[.slice ao s.length cap, rlv r] w (RetA w (addL s r) 0) := by
  have HF := Lib.hid (fun w' (hf : Fuw w w') => fnd_any s r ao cap w' (slR_on hf hs) hr)
  have hle := hs.le
  have hmx := hs.cap_
  have hat := atR_le s r
  obtain ⟨W, hW⟩ : ∃ W, w.alloc (.cells #[.int .i64 r.kd, .int .i64 r.nn, .string (bs r.nm), .string (bs r.ky), .string (bs r.fr), .string (bs r.tt)] 23) = W := ⟨_, rfl⟩
  have P0 := Lib.hid (show BkR W w.heap.size r from by rw [← hW]; exact BkR.new w r)
  have F0 := Lib.hid (show Fuw w W from by rw [← hW]; exact fuwA _ _)
  unfold RetF at HF
  have HIR := Lib.hid hr
  obtain ⟨h1, h2, h3⟩ := addE_0 he
  rw [if_pos h1, h2] at HF
  have hlI : ((s.length : Int) == 40) = false := by rw [beq_eq_false_iff_ne]; omega
  have HL := Lib.hid (show addL s r = s.take (atR s r) ++ ([r] ++ s.drop (atR s r)) from rfl)
  clear h1 h2
  have HS := Lib.hid hs
  clear hs hr he
  generalize atR s r = k at *
  unfold rlv at HF ⊢
  rcases ao with _ | ad
  · have hcz : cap = 0 := HS.out.nil rfl
    have hsz : s.length = 0 := by omega
    have hkz : k = 0 := by omega
    subst hcz hkz
    have HSZ := Lib.hid hsz
    rw [hsz] at HF hlI ⊢
    clear hsz hle hmx hat
    go_enter Tryd.func15, Tryd.ntmps15
    go_upto_region 1 with fail
    clear hW
    have c0 := P0.out.c0; have c1 := P0.out.c1; have c2 := P0.out.c2; have c3 := P0.out.c3; have c4 := P0.out.c4; have c5 := P0.out.c5
    go_wp2_with fail
    go_at_call 40; refine (HF.out _ F0.out).mono ?_; rintro e1 w1 ⟨rfl, f1⟩
    have P1 := Lib.hid (P0.out.on f1)
    have F1 := Lib.hid (F0.out.trans f1)
    clear c0 c1 c2 c3 c4 c5 f1 P0 F0
    go_upto_region 8 with fail
    have HSS := Lib.hid (fun w' (ff : Fuw w1 w') => (show (w'.cell? ⟨w.heap.size, 0, none⟩ = some (.int .i64 r.kd) ∧ w'.cell? ⟨w.heap.size, 1, none⟩ = some (.int .i64 r.nn) ∧ w'.cell? ⟨w.heap.size, 2, none⟩ = some (.string (bs r.nm)) ∧ w'.cell? ⟨w.heap.size, 3, none⟩ = some (.string (bs r.ky)) ∧ w'.cell? ⟨w.heap.size, 4, none⟩ = some (.string (bs r.fr)) ∧ w'.cell? ⟨w.heap.size, 5, none⟩ = some (.string (bs r.tt))) from
      ⟨(P1.out.on ff).c0, (P1.out.on ff).c1, (P1.out.on ff).c2, (P1.out.on ff).c3, (P1.out.on ff).c4, (P1.out.on ff).c5⟩))
    have ff : Fuw w1 w1.drew := Fuw.drew (Fuw.refl w1)
    have HC := Lib.hid (show Calls Tryd.prog 41 #[.slice (some ⟨w1.heap.size + 1, 0, none⟩) 3 3] (((w1.alloc (.cells #[.int .i64 r.kd, .int .i64 r.nn, .string (bs r.nm), .string (bs r.ky), .string (bs r.fr), .string (bs r.tt)] 23)).alloc (.cells #[.slice none 0 0, .slice (some ⟨w1.heap.size, 0, none⟩) 1 1, .slice none 0 0] 30)).drew) (RetO (((w1.alloc (.cells #[.int .i64 r.kd, .int .i64 r.nn, .string (bs r.nm), .string (bs r.ky), .string (bs r.fr), .string (bs r.tt)] 23)).alloc (.cells #[.slice none 0 0, .slice (some ⟨w1.heap.size, 0, none⟩) 1 1, .slice none 0 0] 30)).drew) (s.take 0 ++ ([r] ++ s.drop 0))) from
      cat3 (s.take 0) [r] (s.drop 0) 0 1 0 (by simp) rfl (by rw [List.drop_zero]; exact HSZ.out) none (some ⟨w1.heap.size, 0, none⟩) none 0 1 0 _ _ _ (Bk.on (bkA2 w1 _ _ _) (Fuw.drew (Fuw.refl _))) ⟨by simp, Nat.zero_le _, fun _ => rfl, fun q => absurd q (by simp)⟩ (slR_one (BkR.on (BkR.on (BkR.new w1 r) (fuwA _ _)) (Fuw.drew (Fuw.refl _))) HIR.out) (by rw [List.drop_zero, List.eq_nil_of_length_eq_zero HSZ.out]; exact Sl.empty _) (by omega) (by omega) (by omega))
    go_region_held3 (fun w' => (w'.cell? ⟨w.heap.size, 0, none⟩ = some (.int .i64 r.kd) ∧ w'.cell? ⟨w.heap.size, 1, none⟩ = some (.int .i64 r.nn) ∧ w'.cell? ⟨w.heap.size, 2, none⟩ = some (.string (bs r.nm)) ∧ w'.cell? ⟨w.heap.size, 3, none⟩ = some (.string (bs r.ky)) ∧ w'.cell? ⟨w.heap.size, 4, none⟩ = some (.string (bs r.fr)) ∧ w'.cell? ⟨w.heap.size, 5, none⟩ = some (.string (bs r.tt))))
      (first | (with_reducible exact HSS.out _ ff) | (with_reducible exact HSS.out _ (ff.trans (fuwA _ _))) | (with_reducible exact HSS.out _ (ff.trans (fuwA2 _ _ _))))
      (first | (go_at_call 41; refine HC.out.mono ?_; rintro e2 w2 ⟨v2, rfl, o2, f2⟩; have G := Lib.hid f2; have O := Lib.hid o2; clear f2 o2; replace ff := (show Fuw w1 w2 from ((fuwA2 w1 _ _).drew).trans G.out)))
    all_goals
      rename_i hH
      clear hH
      go_wp2
      go_ret2
      exact ⟨v2, rfl, own_low (by rw [HL.out]; exact O.out) (by have := F1.out.size; simp; omega), F1.out.trans ff⟩
  · rcases (show cap = k ∨ ¬ cap = k by omega) with hck | hck
    · subst hck
      have hkI : (cap : Int) ≤ (s.length : Int) := by omega
      go_enter Tryd.func15, Tryd.ntmps15
      go_upto_region 1 with fail
      clear hW
      have c0 := P0.out.c0; have c1 := P0.out.c1; have c2 := P0.out.c2; have c3 := P0.out.c3; have c4 := P0.out.c4; have c5 := P0.out.c5
      go_wp2_with fail
      go_at_call 40; refine (HF.out _ F0.out).mono ?_; rintro e1 w1 ⟨rfl, f1⟩
      have P1 := Lib.hid (P0.out.on f1)
      have F1 := Lib.hid (F0.out.trans f1)
      clear c0 c1 c2 c3 c4 c5 f1 P0 F0
      go_upto_region 8 with fail
      have HSS := Lib.hid (fun w' (ff : Fuw w1 w') => (show (w'.cell? ⟨w.heap.size, 0, none⟩ = some (.int .i64 r.kd) ∧ w'.cell? ⟨w.heap.size, 1, none⟩ = some (.int .i64 r.nn) ∧ w'.cell? ⟨w.heap.size, 2, none⟩ = some (.string (bs r.nm)) ∧ w'.cell? ⟨w.heap.size, 3, none⟩ = some (.string (bs r.ky)) ∧ w'.cell? ⟨w.heap.size, 4, none⟩ = some (.string (bs r.fr)) ∧ w'.cell? ⟨w.heap.size, 5, none⟩ = some (.string (bs r.tt))) from
        ⟨(P1.out.on ff).c0, (P1.out.on ff).c1, (P1.out.on ff).c2, (P1.out.on ff).c3, (P1.out.on ff).c4, (P1.out.on ff).c5⟩))
      have ff : Fuw w1 w1.drew := Fuw.drew (Fuw.refl w1)
      have HC := Lib.hid (show Calls Tryd.prog 41 #[.slice (some ⟨w1.heap.size + 1, 0, none⟩) 3 3] (((w1.alloc (.cells #[.int .i64 r.kd, .int .i64 r.nn, .string (bs r.nm), .string (bs r.ky), .string (bs r.fr), .string (bs r.tt)] 23)).alloc (.cells #[.slice (some ad) cap cap, .slice (some ⟨w1.heap.size, 0, none⟩) 1 1, .slice (some ad) 0 (0)] 30)).drew) (RetO (((w1.alloc (.cells #[.int .i64 r.kd, .int .i64 r.nn, .string (bs r.nm), .string (bs r.ky), .string (bs r.fr), .string (bs r.tt)] 23)).alloc (.cells #[.slice (some ad) cap cap, .slice (some ⟨w1.heap.size, 0, none⟩) 1 1, .slice (some ad) 0 (0)] 30)).drew) (s.take cap ++ ([r] ++ s.drop cap))) from
        cat3 (s.take cap) [r] (s.drop cap) cap 1 0 (by rw [List.length_take]; omega) rfl (by simp only [List.length_drop]; try omega) (some ad) (some ⟨w1.heap.size, 0, none⟩) _ cap 1 _ _ _ _ (Bk.on (bkA2 w1 _ _ _) (Fuw.drew (Fuw.refl _))) (slR_take (slR_on (F1.out.trans (fuwA2 w1 _ _).drew) HS.out) cap) (slR_one (BkR.on (BkR.on (BkR.new w1 r) (fuwA _ _)) (Fuw.drew (Fuw.refl _))) HIR.out) (slR_drop_t (slR_on (F1.out.trans (fuwA2 w1 _ _).drew) HS.out) hat) (by omega) (by omega) (by omega))
      go_region_held3 (fun w' => (w'.cell? ⟨w.heap.size, 0, none⟩ = some (.int .i64 r.kd) ∧ w'.cell? ⟨w.heap.size, 1, none⟩ = some (.int .i64 r.nn) ∧ w'.cell? ⟨w.heap.size, 2, none⟩ = some (.string (bs r.nm)) ∧ w'.cell? ⟨w.heap.size, 3, none⟩ = some (.string (bs r.ky)) ∧ w'.cell? ⟨w.heap.size, 4, none⟩ = some (.string (bs r.fr)) ∧ w'.cell? ⟨w.heap.size, 5, none⟩ = some (.string (bs r.tt))))
        (first | (with_reducible exact HSS.out _ ff) | (with_reducible exact HSS.out _ (ff.trans (fuwA _ _))) | (with_reducible exact HSS.out _ (ff.trans (fuwA2 _ _ _))))
        (first | (go_at_call 41; refine HC.out.mono ?_; rintro e2 w2 ⟨v2, rfl, o2, f2⟩; have G := Lib.hid f2; have O := Lib.hid o2; clear f2 o2; replace ff := (show Fuw w1 w2 from ((fuwA2 w1 _ _).drew).trans G.out)))
      all_goals
        rename_i hH
        clear hH
        go_wp2
        go_ret2
        exact ⟨v2, rfl, own_low (by rw [HL.out]; exact O.out) (by have := F1.out.size; simp; omega), F1.out.trans ff⟩
    · have hkI : (k : Int) ≤ (s.length : Int) := by omega
      have hkc : (k : Int) ≤ (cap : Int) := by omega
      go_enter Tryd.func15, Tryd.ntmps15
      go_upto_region 1 with fail
      clear hW
      have c0 := P0.out.c0; have c1 := P0.out.c1; have c2 := P0.out.c2; have c3 := P0.out.c3; have c4 := P0.out.c4; have c5 := P0.out.c5
      go_wp2_with fail
      go_at_call 40; refine (HF.out _ F0.out).mono ?_; rintro e1 w1 ⟨rfl, f1⟩
      have P1 := Lib.hid (P0.out.on f1)
      have F1 := Lib.hid (F0.out.trans f1)
      clear c0 c1 c2 c3 c4 c5 f1 P0 F0
      go_upto_region 8 with fail
      have HSS := Lib.hid (fun w' (ff : Fuw w1 w') => (show (w'.cell? ⟨w.heap.size, 0, none⟩ = some (.int .i64 r.kd) ∧ w'.cell? ⟨w.heap.size, 1, none⟩ = some (.int .i64 r.nn) ∧ w'.cell? ⟨w.heap.size, 2, none⟩ = some (.string (bs r.nm)) ∧ w'.cell? ⟨w.heap.size, 3, none⟩ = some (.string (bs r.ky)) ∧ w'.cell? ⟨w.heap.size, 4, none⟩ = some (.string (bs r.fr)) ∧ w'.cell? ⟨w.heap.size, 5, none⟩ = some (.string (bs r.tt))) from
        ⟨(P1.out.on ff).c0, (P1.out.on ff).c1, (P1.out.on ff).c2, (P1.out.on ff).c3, (P1.out.on ff).c4, (P1.out.on ff).c5⟩))
      have ff : Fuw w1 w1.drew := Fuw.drew (Fuw.refl w1)
      have HC := Lib.hid (show Calls Tryd.prog 41 #[.slice (some ⟨w1.heap.size + 1, 0, none⟩) 3 3] (((w1.alloc (.cells #[.int .i64 r.kd, .int .i64 r.nn, .string (bs r.nm), .string (bs r.ky), .string (bs r.fr), .string (bs r.tt)] 23)).alloc (.cells #[.slice (some ad) k cap, .slice (some ⟨w1.heap.size, 0, none⟩) 1 1, .slice (some (ad.add (k * 6))) (s.length - k) (cap - k)] 30)).drew) (RetO (((w1.alloc (.cells #[.int .i64 r.kd, .int .i64 r.nn, .string (bs r.nm), .string (bs r.ky), .string (bs r.fr), .string (bs r.tt)] 23)).alloc (.cells #[.slice (some ad) k cap, .slice (some ⟨w1.heap.size, 0, none⟩) 1 1, .slice (some (ad.add (k * 6))) (s.length - k) (cap - k)] 30)).drew) (s.take k ++ ([r] ++ s.drop k))) from
        cat3 (s.take k) [r] (s.drop k) k 1 (s.length - k) (by rw [List.length_take]; omega) rfl (by simp only [List.length_drop]; try omega) (some ad) (some ⟨w1.heap.size, 0, none⟩) _ cap 1 _ _ _ _ (Bk.on (bkA2 w1 _ _ _) (Fuw.drew (Fuw.refl _))) (slR_take (slR_on (F1.out.trans (fuwA2 w1 _ _).drew) HS.out) k) (slR_one (BkR.on (BkR.on (BkR.new w1 r) (fuwA _ _)) (Fuw.drew (Fuw.refl _))) HIR.out) (slR_drop_f (slR_on (F1.out.trans (fuwA2 w1 _ _).drew) HS.out) hat hck) (by omega) (by omega) (by omega))
      go_region_held3 (fun w' => (w'.cell? ⟨w.heap.size, 0, none⟩ = some (.int .i64 r.kd) ∧ w'.cell? ⟨w.heap.size, 1, none⟩ = some (.int .i64 r.nn) ∧ w'.cell? ⟨w.heap.size, 2, none⟩ = some (.string (bs r.nm)) ∧ w'.cell? ⟨w.heap.size, 3, none⟩ = some (.string (bs r.ky)) ∧ w'.cell? ⟨w.heap.size, 4, none⟩ = some (.string (bs r.fr)) ∧ w'.cell? ⟨w.heap.size, 5, none⟩ = some (.string (bs r.tt))))
        (first | (with_reducible exact HSS.out _ ff) | (with_reducible exact HSS.out _ (ff.trans (fuwA _ _))) | (with_reducible exact HSS.out _ (ff.trans (fuwA2 _ _ _))))
        (first | (go_at_call 41; refine HC.out.mono ?_; rintro e2 w2 ⟨v2, rfl, o2, f2⟩; have G := Lib.hid f2; have O := Lib.hid o2; clear f2 o2; replace ff := (show Fuw w1 w2 from ((fuwA2 w1 _ _).drew).trans G.out)))
      all_goals
        rename_i hH
        clear hH
        go_wp2
        go_ret2
        exact ⟨v2, rfl, own_low (by rw [HL.out]; exact O.out) (by have := F1.out.size; simp; omega), F1.out.trans ff⟩
theorem add_any (s : List Rl) (r : Rl) (ao : Option Addr) (cap : Nat) (w : World) (hs : SlR w ao s cap) (hr : RIn r) : Calls Tryd.prog 15 #[.slice ao s.length cap, rlv r] w (RetA w (addR s r) (addE s r)) := by
  by_cases he : addE s r = 0
  · unfold addR; rw [if_pos he, he]; exact add_t s r ao cap w hs hr he
  · unfold addR; rw [if_neg he]; exact add_f s r ao cap w hs hr he
set_option maxHeartbeats 6400000 in
set_option maxRecDepth 100000 in
theorem drop_f (s : List Rl) (r : Rl) (ao : Option Addr) (cap : Nat) (w : World) (hs : SlR w ao s cap) (hr : RIn r) (he : drpE s r ≠ 0) : Calls Tryd.prog 18 #[.slice ao s.length cap, rlv r] w (RetA w [] (drpE s r)) := by
  have HF := Lib.hid (fun w' (hf : Fuw w w') => fnd_any s r ao cap w' (slR_on hf hs) hr)
  have hln := hs.len
  obtain ⟨W, hW⟩ : ∃ W, w.alloc (.cells #[.int .i64 r.kd, .int .i64 r.nn, .string (bs r.nm), .string (bs r.ky), .string (bs r.fr), .string (bs r.tt)] 23) = W := ⟨_, rfl⟩
  have P0 := Lib.hid (show BkR W w.heap.size r from by rw [← hW]; exact BkR.new w r)
  have F0 := Lib.hid (show Fuw w W from by rw [← hW]; exact fuwA _ _)
  unfold RetF at HF
  clear hs hr
  have hE := drpE_n he
  clear he
  generalize drpE s r = c at *
  generalize atR s r = k at *
  unfold rlv at HF ⊢
  rcases hE with ⟨h1, h2⟩ | ⟨h1, h2, h3⟩
  · subst h2
    rw [if_neg h1] at HF
    have hc : (fndE s r != 0) = true := by simpa using h1
    generalize fndE s r = c at *
    clear h1
    go_enter Tryd.func18, Tryd.ntmps18
    go_upto_region 1 with fail
    clear hW
    have c0 := P0.out.c0; have c1 := P0.out.c1; have c2 := P0.out.c2; have c3 := P0.out.c3; have c4 := P0.out.c4; have c5 := P0.out.c5
    go_wp2_with fail
    go_at_call 40; refine (HF.out _ F0.out).mono ?_; rintro e1 w1 ⟨rfl, f1⟩
    have P1 := Lib.hid (P0.out.on f1)
    have F1 := Lib.hid (F0.out.trans f1)
    clear c0 c1 c2 c3 c4 c5 f1 P0 F0
    go_wp2
    go_ret2
    exact ⟨_, rfl, World.ownsRow_nil _ _ _ _, F1.out⟩
  · subst h3
    rw [if_pos h1, h2] at HF
    clear h1 h2
    go_enter Tryd.func18, Tryd.ntmps18
    go_upto_region 1 with fail
    clear hW
    have c0 := P0.out.c0; have c1 := P0.out.c1; have c2 := P0.out.c2; have c3 := P0.out.c3; have c4 := P0.out.c4; have c5 := P0.out.c5
    go_wp2_with fail
    go_at_call 40; refine (HF.out _ F0.out).mono ?_; rintro e1 w1 ⟨rfl, f1⟩
    have P1 := Lib.hid (P0.out.on f1)
    have F1 := Lib.hid (F0.out.trans f1)
    clear c0 c1 c2 c3 c4 c5 f1 P0 F0
    go_wp2
    go_ret2
    exact ⟨_, rfl, World.ownsRow_nil _ _ _ _, F1.out⟩
set_option maxHeartbeats 6400000 in
set_option maxRecDepth 100000 in
theorem drop_t (s : List Rl) (r : Rl) (ao : Option Addr) (cap : Nat) (w : World) (hs : SlR w ao s cap) (hr : RIn r) (he : drpE s r = 0) : Calls Tryd.prog 18 #[.slice ao s.length cap, rlv r] w (RetA w (dropL s r) 0) := by
  have HF := Lib.hid (fun w' (hf : Fuw w w') => fnd_any s r ao cap w' (slR_on hf hs) hr)
  have hle := hs.le
  have hmx := hs.cap_
  have hat := atR_le s r
  obtain ⟨W, hW⟩ : ∃ W, w.alloc (.cells #[.int .i64 r.kd, .int .i64 r.nn, .string (bs r.nm), .string (bs r.ky), .string (bs r.fr), .string (bs r.tt)] 23) = W := ⟨_, rfl⟩
  have P0 := Lib.hid (show BkR W w.heap.size r from by rw [← hW]; exact BkR.new w r)
  have F0 := Lib.hid (show Fuw w W from by rw [← hW]; exact fuwA _ _)
  unfold RetF at HF
  have HIR := Lib.hid hr
  obtain ⟨h1, h2, h3, h4⟩ := drpE_0 he
  rw [if_pos h1, h2] at HF
  have hat2 := hasR_at h2
  have HL := Lib.hid (show dropL s r = s.take (atR s r) ++ s.drop (atR s r + 1) from rfl)
  clear h1 h2 h4
  have HS := Lib.hid hs
  clear hs hr he
  generalize atR s r = k at *
  unfold rlv at HF ⊢
  rcases ao with _ | ad
  · exfalso; have := HS.out.nil rfl; omega
  · rcases (show cap = k + 1 ∨ ¬ cap = k + 1 by omega) with hck | hck
    · subst hck
      have hk1 : ((k : Int) + 1) ≤ (s.length : Int) := by omega
      have hk5 : (k : Int) < (s.length : Int) := by omega
      have hk7 : 0 ≤ (k : Int) + 1 := by omega
      have hk8 : (((k + 1 : Nat) : Int)) ≤ (s.length : Int) := by omega
      have hk3 : IntKind.i64.wrap ((k : Int) + 1) = (k : Int) + 1 := IntWalk.i64_in _ (by omega)
      have hk4 : ((k : Int) + 1).toNat = k + 1 := by omega
      have hkc : (k : Int) ≤ ((k + 1 : Nat) : Int) := by omega
      have hkd : (k : Int) ≤ (k : Int) + 1 := by omega
      go_enter Tryd.func18, Tryd.ntmps18
      go_upto_region 1 with fail
      clear hW
      have c0 := P0.out.c0; have c1 := P0.out.c1; have c2 := P0.out.c2; have c3 := P0.out.c3; have c4 := P0.out.c4; have c5 := P0.out.c5
      go_wp2_with fail
      go_at_call 40; refine (HF.out _ F0.out).mono ?_; rintro e1 w1 ⟨rfl, f1⟩
      have P1 := Lib.hid (P0.out.on f1)
      have F1 := Lib.hid (F0.out.trans f1)
      clear c0 c1 c2 c3 c4 c5 f1 P0 F0
      go_upto_region 6 with fail
      have HSS := Lib.hid (fun w' (ff : Fuw w1 w') => (show (w'.cell? ⟨w.heap.size, 0, none⟩ = some (.int .i64 r.kd) ∧ w'.cell? ⟨w.heap.size, 1, none⟩ = some (.int .i64 r.nn) ∧ w'.cell? ⟨w.heap.size, 2, none⟩ = some (.string (bs r.nm)) ∧ w'.cell? ⟨w.heap.size, 3, none⟩ = some (.string (bs r.ky)) ∧ w'.cell? ⟨w.heap.size, 4, none⟩ = some (.string (bs r.fr)) ∧ w'.cell? ⟨w.heap.size, 5, none⟩ = some (.string (bs r.tt))) from
        ⟨(P1.out.on ff).c0, (P1.out.on ff).c1, (P1.out.on ff).c2, (P1.out.on ff).c3, (P1.out.on ff).c4, (P1.out.on ff).c5⟩))
      have ff : Fuw w1 w1.drew := Fuw.drew (Fuw.refl w1)
      have HC := Lib.hid (show Calls Tryd.prog 41 #[.slice (some ⟨w1.heap.size, 0, none⟩) 2 2] ((w1.alloc (.cells #[.slice (some ad) k (k + 1), .slice (some ad) 0 (0)] 30)).drew) (RetO ((w1.alloc (.cells #[.slice (some ad) k (k + 1), .slice (some ad) 0 (0)] 30)).drew) (s.take k ++ s.drop (k + 1))) from
        cat2 (s.take k) (s.drop (k + 1)) k 0 (by rw [List.length_take]; omega) (by simp only [List.length_drop]; try omega) (some ad) _ (k + 1) _ _ _ _ (Bk.on (Bk.new w1 _ _) (Fuw.drew (Fuw.refl _))) (slR_take (slR_on (F1.out.trans (fuwA w1 _).drew) HS.out) k) (slR_drop_t (slR_on (F1.out.trans (fuwA w1 _).drew) HS.out) hat2) (by omega) (by omega))
      go_region_held3 (fun w' => (w'.cell? ⟨w.heap.size, 0, none⟩ = some (.int .i64 r.kd) ∧ w'.cell? ⟨w.heap.size, 1, none⟩ = some (.int .i64 r.nn) ∧ w'.cell? ⟨w.heap.size, 2, none⟩ = some (.string (bs r.nm)) ∧ w'.cell? ⟨w.heap.size, 3, none⟩ = some (.string (bs r.ky)) ∧ w'.cell? ⟨w.heap.size, 4, none⟩ = some (.string (bs r.fr)) ∧ w'.cell? ⟨w.heap.size, 5, none⟩ = some (.string (bs r.tt))))
        (first | (with_reducible exact HSS.out _ ff) | (with_reducible exact HSS.out _ (ff.trans (fuwA _ _))) | (with_reducible exact HSS.out _ (ff.trans (fuwA2 _ _ _))))
        (first | (go_at_call 41; refine HC.out.mono ?_; rintro e2 w2 ⟨v2, rfl, o2, f2⟩; have G := Lib.hid f2; have O := Lib.hid o2; clear f2 o2; replace ff := (show Fuw w1 w2 from ((fuwA w1 _).drew).trans G.out)))
      all_goals
        rename_i hH
        clear hH
        go_wp2
        go_ret2
        exact ⟨v2, rfl, own_low (by rw [HL.out]; exact O.out) (by have := F1.out.size; simp; omega), F1.out.trans ff⟩
    · have hk1 : ((k : Int) + 1) ≤ (s.length : Int) := by omega
      have hk5 : (k : Int) < (s.length : Int) := by omega
      have hk7 : 0 ≤ (k : Int) + 1 := by omega
      have hk8 : (((k + 1 : Nat) : Int)) ≤ (s.length : Int) := by omega
      have hk3 : IntKind.i64.wrap ((k : Int) + 1) = (k : Int) + 1 := IntWalk.i64_in _ (by omega)
      have hk4 : ((k : Int) + 1).toNat = k + 1 := by omega
      have hk2 : ((k : Int) + 1) ≤ (cap : Int) := by omega
      have hkc : (k : Int) ≤ (cap : Int) := by omega
      have hk6 : (k : Int) < (cap : Int) := by omega
      have hk9 : k + 1 ≤ cap := by omega
      go_enter Tryd.func18, Tryd.ntmps18
      go_upto_region 1 with fail
      clear hW
      have c0 := P0.out.c0; have c1 := P0.out.c1; have c2 := P0.out.c2; have c3 := P0.out.c3; have c4 := P0.out.c4; have c5 := P0.out.c5
      go_wp2_with fail
      go_at_call 40; refine (HF.out _ F0.out).mono ?_; rintro e1 w1 ⟨rfl, f1⟩
      have P1 := Lib.hid (P0.out.on f1)
      have F1 := Lib.hid (F0.out.trans f1)
      clear c0 c1 c2 c3 c4 c5 f1 P0 F0
      go_upto_region 6 with fail
      have HSS := Lib.hid (fun w' (ff : Fuw w1 w') => (show (w'.cell? ⟨w.heap.size, 0, none⟩ = some (.int .i64 r.kd) ∧ w'.cell? ⟨w.heap.size, 1, none⟩ = some (.int .i64 r.nn) ∧ w'.cell? ⟨w.heap.size, 2, none⟩ = some (.string (bs r.nm)) ∧ w'.cell? ⟨w.heap.size, 3, none⟩ = some (.string (bs r.ky)) ∧ w'.cell? ⟨w.heap.size, 4, none⟩ = some (.string (bs r.fr)) ∧ w'.cell? ⟨w.heap.size, 5, none⟩ = some (.string (bs r.tt))) from
        ⟨(P1.out.on ff).c0, (P1.out.on ff).c1, (P1.out.on ff).c2, (P1.out.on ff).c3, (P1.out.on ff).c4, (P1.out.on ff).c5⟩))
      have ff : Fuw w1 w1.drew := Fuw.drew (Fuw.refl w1)
      have HC := Lib.hid (show Calls Tryd.prog 41 #[.slice (some ⟨w1.heap.size, 0, none⟩) 2 2] ((w1.alloc (.cells #[.slice (some ad) k cap, .slice (some (ad.add ((k + 1) * 6))) (s.length - (k + 1)) (cap - (k + 1))] 30)).drew) (RetO ((w1.alloc (.cells #[.slice (some ad) k cap, .slice (some (ad.add ((k + 1) * 6))) (s.length - (k + 1)) (cap - (k + 1))] 30)).drew) (s.take k ++ s.drop (k + 1))) from
        cat2 (s.take k) (s.drop (k + 1)) k (s.length - (k + 1)) (by rw [List.length_take]; omega) (by simp only [List.length_drop]; try omega) (some ad) _ cap _ _ _ _ (Bk.on (Bk.new w1 _ _) (Fuw.drew (Fuw.refl _))) (slR_take (slR_on (F1.out.trans (fuwA w1 _).drew) HS.out) k) (slR_drop_f (slR_on (F1.out.trans (fuwA w1 _).drew) HS.out) hat2 hck) (by omega) (by omega))
      go_region_held3 (fun w' => (w'.cell? ⟨w.heap.size, 0, none⟩ = some (.int .i64 r.kd) ∧ w'.cell? ⟨w.heap.size, 1, none⟩ = some (.int .i64 r.nn) ∧ w'.cell? ⟨w.heap.size, 2, none⟩ = some (.string (bs r.nm)) ∧ w'.cell? ⟨w.heap.size, 3, none⟩ = some (.string (bs r.ky)) ∧ w'.cell? ⟨w.heap.size, 4, none⟩ = some (.string (bs r.fr)) ∧ w'.cell? ⟨w.heap.size, 5, none⟩ = some (.string (bs r.tt))))
        (first | (with_reducible exact HSS.out _ ff) | (with_reducible exact HSS.out _ (ff.trans (fuwA _ _))) | (with_reducible exact HSS.out _ (ff.trans (fuwA2 _ _ _))))
        (first | (go_at_call 41; refine HC.out.mono ?_; rintro e2 w2 ⟨v2, rfl, o2, f2⟩; have G := Lib.hid f2; have O := Lib.hid o2; clear f2 o2; replace ff := (show Fuw w1 w2 from ((fuwA w1 _).drew).trans G.out)))
      all_goals
        rename_i hH
        clear hH
        go_wp2
        go_ret2
        exact ⟨v2, rfl, own_low (by rw [HL.out]; exact O.out) (by have := F1.out.size; simp; omega), F1.out.trans ff⟩
theorem drop_any (s : List Rl) (r : Rl) (ao : Option Addr) (cap : Nat) (w : World) (hs : SlR w ao s cap) (hr : RIn r) : Calls Tryd.prog 18 #[.slice ao s.length cap, rlv r] w (RetA w (drpR s r) (drpE s r)) := by
  by_cases he : drpE s r = 0
  · unfold drpR; rw [if_pos he, he]; exact drop_t s r ao cap w hs hr he
  · unfold drpR; rw [if_neg he]; exact drop_f s r ao cap w hs hr he
end Go.Proofs.YtadnaakbhgacgaaDoor
