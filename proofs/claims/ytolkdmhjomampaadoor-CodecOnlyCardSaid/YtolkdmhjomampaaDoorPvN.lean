/-
  PvM; PvN: texts of one kind in one file; each part says what it holds.
-/
import Derived.Test.YtolkdmhjomampaaDoorCgY
import Derived.Test.YtolkdmhjomampaaDoorValT

/-! Plain mathematics of encoded values: what is written of a valid value, between any other bytes, is read as the value. No program's function is walked here. -/
namespace Go.Proofs.YtolkdmhjomampaaDoor
open Go.Lib

mutual
/-- The bytes of a value. -/
def putX : Vl → List UInt8
  | .mk k n d s l => k.toNat.toUInt8 :: (
    if k = 1 ∨ k = 2 ∨ k = 5 ∨ k = 6 then uvarint (zigzag n)
    else if k = 3 then uvarint (zigzag n) ++ uvarint (zigzag d)
    else if k = 4 then uvarint s.length ++ s
    else if k = 7 ∨ k = 8 then uvarint l.length ++ putXs l
    else [])
/-- The bytes of values, one behind the other. -/
def putXs : List Vl → List UInt8
  | [] => []
  | x :: r => putX x ++ putXs r
end
/-- What stands behind the byte of the kind. -/
def tailX (k n d : Int) (s : List UInt8) (l : List Vl) : List UInt8 :=
  if k = 1 ∨ k = 2 ∨ k = 5 ∨ k = 6 then uvarint (zigzag n)
  else if k = 3 then uvarint (zigzag n) ++ uvarint (zigzag d)
  else if k = 4 then uvarint s.length ++ s
  else if k = 7 ∨ k = 8 then uvarint l.length ++ putXs l
  else []
theorem putX_mk (k n d : Int) (s : List UInt8) (l : List Vl) : putX (.mk k n d s l) = k.toNat.toUInt8 :: tailX k n d s l := by unfold putX tailX; rfl
theorem putXs_nil : putXs [] = [] := by unfold putXs; rfl
theorem putXs_cons (x : Vl) (r : List Vl) : putXs (x :: r) = putX x ++ putXs r := by conv => lhs; unfold putXs

theorem drop_at (f r : List UInt8) : (f ++ r).drop ((f.length : Int)).toNat = r := by
  rw [Int.toNat_natCast, List.drop_left]
theorem uint_back (f r : List UInt8) {u : Nat} (h : u ≤ 9223372036854775807) : uintV (f ++ (uvarint u ++ r)) f.length = ((u : Int), (f.length : Int) + (uvarint u).length, 0) := by
  unfold uintV
  have hl : (f ++ (uvarint u ++ r)).length = f.length + ((uvarint u).length + r.length) := by simp
  rw [if_neg (by rw [hl]; omega), drop_at, rdv_uv h (by omega)]
  simp
theorem int_back (f r : List UInt8) {n : Int} (h : I64 n) : intV (f ++ (uvarint (zigzag n) ++ r)) f.length = (n, (f.length : Int) + (uvarint (zigzag n)).length, 0) := by
  unfold intV
  have hl : (f ++ (uvarint (zigzag n) ++ r)).length = f.length + ((uvarint (zigzag n)).length + r.length) := by simp
  have hz := zigzag_lt h.1 h.2
  rw [if_neg (by rw [hl]; omega), drop_at, rdv_uv (by omega) hz]
  simp [unzz_zz]
theorem str_back (f s r : List UInt8) {most : Int} (h : (s.length : Int) ≤ most) (h2 : s.length ≤ 9223372036854775807) :
    strV (f ++ (uvarint s.length ++ (s ++ r))) f.length most = (s, (f.length : Int) + (uvarint s.length).length + s.length, 0) := by
  have hu := uint_back f (s ++ r) h2
  have hl : (f ++ (uvarint s.length ++ (s ++ r))).length = f.length + ((uvarint s.length).length + (s.length + r.length)) := by simp
  unfold strV
  rw [hu]
  simp only
  rw [if_neg (fun h => h rfl), if_neg (by omega), if_neg (by rw [hl]; omega)]
  have e : ((f.length : Int) + (uvarint s.length).length).toNat = f.length + (uvarint s.length).length := by omega
  have e2 : f ++ (uvarint s.length ++ (s ++ r)) = (f ++ uvarint s.length) ++ (s ++ r) := by simp
  rw [e, e2, List.drop_left' (by simp), Int.toNat_natCast, List.take_left]
theorem kind_at (f r : List UInt8) {k : Int} (h0 : 0 ≤ k) (h1 : k ≤ 8) : ((f ++ (k.toNat.toUInt8 :: r)).getD ((f.length : Int)).toNat 0).toNat = k.toNat := by
  rw [Int.toNat_natCast, List.getD_eq_getElem?_getD, List.getElem?_append_right (Nat.le_refl _)]
  have e : (k.toNat.toUInt8).toNat = k.toNat := by
    show k.toNat % 256 = k.toNat
    omega
  simpa using e

/-- A value that holds none is read. -/
theorem flat_back (f r : List UInt8) {m : Nat} {k n d : Int} {s : List UInt8} {l : List Vl} (hk : k < 7) (h : okV m (.mk k n d s l) = true) :
    0 ≤ k ∧ flatV k.toNat (f ++ (tailX k n d s l ++ r)) f.length = .ok (.mk k n d s l) ((f.length : Int) + (tailX k n d s l).length) := by
  have hX : okX (.mk k n d s l) = true := by
    unfold okX
    unfold okV at h ⊢
    rw [if_neg (by omega), if_neg (by omega)] at h ⊢
    exact h
  have hb : k = 4 → okStr s = true := fun e => by
    unfold okV at h
    rw [if_neg (by omega), if_neg (by omega)] at h
    unfold okFlat at h
    subst e
    simp at h
    exact h.2
  rcases kinds hX with ⟨rfl, rfl, rfl, rfl, rfl⟩ | ⟨rfl, hn, rfl, rfl, rfl⟩ | ⟨rfl, hn, rfl, rfl, rfl⟩ | ⟨rfl, hF, hd, rfl, rfl⟩ | ⟨rfl, rfl, rfl, rfl⟩ | ⟨rfl, hn, rfl, rfl, rfl⟩ | ⟨rfl, hn, rfl, rfl, rfl⟩ | ⟨rfl, _⟩ | ⟨rfl, _⟩
  · refine ⟨by decide, ?_⟩
    show flatV 0 _ _ = _
    unfold flatV tailX
    simp [vk]
  · refine ⟨by decide, ?_⟩
    have hI : I64 n := ⟨by omega, by omega⟩
    show flatV 1 _ _ = _
    unfold flatV tailX
    simp only [true_or, if_true, int_back f r hI]
    simp
  · refine ⟨by decide, ?_⟩
    have hI : I64 n := ⟨by omega, by omega⟩
    show flatV 2 _ _ = _
    unfold flatV tailX
    simp only [true_or, or_true, if_true, int_back f r hI]
    simp
  · refine ⟨by decide, ?_⟩
    have hR : (1 ≤ d ∧ d ≤ 1000000000000000) ∧ (-1000000000000000 ≤ n ∧ n ≤ 1000000000000000) := by
      simp only [okF, Bool.and_eq_true, decide_eq_true_eq] at hF
      omega
    have hI : I64 n := ⟨by omega, by omega⟩
    have hD : I64 d := ⟨by omega, by omega⟩
    show flatV 3 _ _ = _
    have e1 : tailX 3 n d [] [] = uvarint (zigzag n) ++ uvarint (zigzag d) := by unfold tailX; simp
    rw [e1]
    have q1 := int_back f (uvarint (zigzag d) ++ r) hI
    have q2 := int_back (f ++ uvarint (zigzag n)) r hD
    have e2 : f ++ (uvarint (zigzag n) ++ uvarint (zigzag d) ++ r) = f ++ (uvarint (zigzag n) ++ (uvarint (zigzag d) ++ r)) := by simp
    have e3 : (f ++ uvarint (zigzag n)) ++ (uvarint (zigzag d) ++ r) = f ++ (uvarint (zigzag n) ++ (uvarint (zigzag d) ++ r)) := by simp
    rw [e3] at q2
    have e4 : ((f ++ uvarint (zigzag n)).length : Int) = (f.length : Int) + (uvarint (zigzag n)).length := by simp
    rw [e4] at q2
    rw [e2]
    unfold flatV
    simp only [q1, q2]
    simp
    omega
  · refine ⟨by decide, ?_⟩
    have hs := hb rfl
    have hl : s.length ≤ 100 := by
      unfold okStr at hs
      rw [Bool.and_eq_true] at hs
      simpa using hs.2
    show flatV 4 _ _ = _
    have e1 : tailX 4 0 0 s [] = uvarint s.length ++ s := by unfold tailX; simp
    rw [e1]
    have q := str_back f s r (most := 100) (by omega) (by omega)
    have e2 : f ++ (uvarint s.length ++ s ++ r) = f ++ (uvarint s.length ++ (s ++ r)) := by simp
    rw [e2]
    unfold flatV
    simp only [q]
    simp
    omega
  · refine ⟨by decide, ?_⟩
    have hI : I64 n := ⟨by omega, by omega⟩
    show flatV 5 _ _ = _
    unfold flatV tailX
    simp only [true_or, or_true, if_true, int_back f r hI]
    simp
  · refine ⟨by decide, ?_⟩
    have hI : I64 n := ⟨by omega, by omega⟩
    show flatV 6 _ _ = _
    unfold flatV tailX
    simp only [or_true, if_true, int_back f r hI]
    simp
  · omega
  · omega
end Go.Proofs.YtolkdmhjomampaaDoor

/-! Plain mathematics of encoded values: lists and paths between any other bytes are read as what was written. No program's function is walked here. -/
namespace Go.Proofs.YtolkdmhjomampaaDoor
open Go.Lib

theorem fin_yes {x : Vl} {E : Int} (h : okX x = true) : fin (.ok x E) = .ok x E := if_pos h
theorem putX_len (x : Vl) : 0 < (putX x).length := by
  obtain ⟨k, n, d, s, l⟩ := x
  rw [putX_mk]; simp
theorem els_back {l : List UInt8} {kind : Nat} {rv : Int → Rs} : ∀ (xs : List Vl) (i : Nat) (f r : List UInt8), l = f ++ (putXs xs ++ r) →
    (∀ x ∈ xs, ∀ f' r', l = f' ++ (putX x ++ r') → rv f'.length = .ok x ((f'.length : Int) + (putX x).length)) → (kind = 7 → okVp (i % 2 == 0) xs = true) →
    elsV l kind rv xs.length i f.length = .ok xs ((f.length : Int) + (putXs xs).length)
  | [], i, f, r, _, _, _ => by
    rw [putXs_nil]
    show elsV l kind rv 0 i f.length = _
    unfold elsV
    simp
  | x :: xs, i, f, r, e, hr, hp => by
    rw [putXs_cons, List.append_assoc] at e
    have hx := hr x (by simp) f (putXs xs ++ r) e
    have hk : ¬ (kind = 7 ∧ (f.length : Int) < l.length ∧ (l.getD ((f.length : Int)).toNat 0).toNat ≠ pkV i) := by
      rintro ⟨h7, _, hne⟩
      have h := hp h7
      unfold okVp at h
      rw [Bool.and_eq_true, Bool.and_eq_true] at h
      have hkd : x.kd = if (i % 2 == 0) = true then 5 else 6 := by simpa using h.1.1
      apply hne
      obtain ⟨k, n, d, s, ll⟩ := x
      have hkd' : k = if (i % 2 == 0) = true then 5 else 6 := hkd
      rw [e, putX_mk, List.cons_append, kind_at f _ (by rw [hkd']; split <;> decide) (by rw [hkd']; split <;> decide), hkd']
      unfold pkV
      by_cases hi : i % 2 = 1
      · rw [if_pos hi, if_neg (by simp [hi])]; rfl
      · rw [if_neg hi, if_pos (by simp; omega)]; rfl
    have e2 : l = (f ++ putX x) ++ (putXs xs ++ r) := by rw [e]; simp
    have ih := els_back (rv := rv) (kind := kind) xs (i + 1) (f ++ putX x) r e2 (fun y hy => hr y (by simp [hy])) (fun h7 => by
      have h := hp h7
      unfold okVp at h
      rw [Bool.and_eq_true, Bool.and_eq_true] at h
      have h2 := h.2
      have e3 : ((i + 1) % 2 == 0) = !(i % 2 == 0) := by
        rcases Nat.mod_two_eq_zero_or_one i with q | q
        · have q2 : (i + 1) % 2 = 1 := by omega
          rw [q, q2]; rfl
        · have q2 : (i + 1) % 2 = 0 := by omega
          rw [q, q2]; rfl
      rw [e3]
      exact h2)
    have e4 : (((f ++ putX x).length : Nat) : Int) = (f.length : Int) + (putX x).length := by simp
    rw [e4] at ih
    show elsV l kind rv (xs.length + 1) i f.length = _
    rw [els_ok hk hx, ih, putXs_cons]
    show Rl.ok (x :: xs) _ = _
    congr 1
    simp
    omega
/-- A node or an edge is read where it must stand. -/
theorem end_back {l : List UInt8} {x : Vl} (h : okV 0 x = true) (hk : x.kd = 5 ∨ x.kd = 6) (f r : List UInt8) (e : l = f ++ (putX x ++ r)) : endV l f.length = .ok x ((f.length : Int) + (putX x).length) := by
  obtain ⟨k, n, d, s, ll⟩ := x
  have hk' : k = 5 ∨ k = 6 := hk
  rw [putX_mk, List.cons_append] at e
  have hl : f.length < l.length := by rw [e]; simp
  have hkk : (l.getD ((f.length : Int)).toNat 0).toNat = k.toNat := by rw [e]; exact kind_at f _ (by omega) (by omega)
  unfold endV
  rw [if_neg (by omega), hkk, if_pos (by omega)]
  obtain ⟨_, hf⟩ := flat_back (f ++ [k.toNat.toUInt8]) r (by omega) h
  have e2 : (f ++ [k.toNat.toUInt8]) ++ (tailX k n d s ll ++ r) = l := by rw [e]; simp
  have e3 : (((f ++ [k.toNat.toUInt8]).length : Nat) : Int) = (f.length : Int) + 1 := by simp
  rw [e2, e3] at hf
  rw [hf, fin_yes (ok_mono _ 0 8 (by decide) h), putX_mk]
  congr 1
  simp
  omega
theorem okVs_mem : ∀ {l : List Vl} {m : Nat}, okVs m l = true → ∀ x ∈ l, okV m x = true
  | [], _, _ => fun x h => by cases h
  | y :: r, m, g => by
    unfold okVs at g
    rw [Bool.and_eq_true] at g
    intro x hx
    rcases List.mem_cons.1 hx with e | e
    · rw [e]; exact g.1
    · exact okVs_mem g.2 x e
theorem okVp_mem : ∀ {l : List Vl} {b : Bool}, okVp b l = true → ∀ x ∈ l, okV 0 x = true ∧ (x.kd = 5 ∨ x.kd = 6)
  | [], _, _ => fun x h => by cases h
  | y :: r, b, g => by
    unfold okVp at g
    rw [Bool.and_eq_true, Bool.and_eq_true] at g
    intro x hx
    rcases List.mem_cons.1 hx with e | e
    · subst e
      refine ⟨g.1.2, ?_⟩
      have h := g.1.1
      cases b
      · right; simpa using h
      · left; simpa using h
    · exact okVp_mem g.2 x e
/-- What is written of a valid value is read as the value. -/
theorem val_back : ∀ (m : Nat) (v : Vl) (l f r : List UInt8), m ≤ 8 → okV m v = true → l = f ++ (putX v ++ r) → valV l m f.length = .ok v ((f.length : Int) + (putX v).length) := by
  intro m
  induction m with
  | zero =>
    intro v l f r _ h e
    exact head_back 0 v l f r (by decide) h e _ (fun hk => by
      exfalso
      obtain ⟨k, n, d, s, ll⟩ := v
      have hk' : k = 8 := hk
      unfold okV at h
      rw [if_neg (by omega), if_pos hk'] at h
      simp at h)
  | succ m ih =>
    intro v l f r hm h e
    refine head_back (m + 1) v l f r hm h e _ (fun hk => ?_)
    obtain ⟨k, n, d, s, ll⟩ := v
    have hk' : k = 8 := hk
    subst hk'
    have hX := ok_mono _ _ 8 hm h
    unfold okV at h
    rw [if_neg (by decide), if_pos rfl] at h
    simp only [Bool.and_eq_true, decide_eq_true_eq, Nat.add_sub_cancel] at h
    obtain ⟨⟨⟨hb, h1⟩, h64⟩, hs⟩ := h
    have hb' : n = 0 ∧ d = 0 ∧ s = [] := by simp [bareV] at hb; exact ⟨hb.1.1, hb.1.2, hb.2⟩
    obtain ⟨rfl, rfl, rfl⟩ := hb'
    have e1 : tailX 8 0 0 [] ll = uvarint ll.length ++ putXs ll := by unfold tailX; simp
    rw [putX_mk, e1] at e ⊢
    have e2 : l = (f ++ [(8 : Int).toNat.toUInt8]) ++ (uvarint ll.length ++ (putXs ll ++ r)) := by rw [e]; simp
    have hu := uint_back (f ++ [(8 : Int).toNat.toUInt8]) (putXs ll ++ r) (u := ll.length) (by omega)
    rw [← e2] at hu
    have e3 : (((f ++ [(8 : Int).toNat.toUInt8]).length : Nat) : Int) = (f.length : Int) + 1 := by simp
    rw [e3] at hu
    have e4 : l = (f ++ [(8 : Int).toNat.toUInt8] ++ uvarint ll.length) ++ (putXs ll ++ r) := by rw [e2]; simp
    have hels := els_back (kind := 8) (rv := valV l m) ll 0 _ r e4 (fun x hx f' r' e' => ih x l f' r' (by omega) (okVs_mem hs x hx) e') (fun h => absurd h (by decide))
    have e5 : (((f ++ [(8 : Int).toNat.toUInt8] ++ uvarint ll.length).length : Nat) : Int) = (f.length : Int) + 1 + (uvarint ll.length).length := by simp; omega
    rw [e5] at hels
    show fin (ofL 8 (listV l (valV l m) ((f.length : Int) + 1))) = _
    unfold listV
    rw [hu]
    simp only
    rw [if_neg (fun h => h rfl), if_neg (fun h => h (by omega)), Int.toNat_natCast, hels]
    show fin (.ok _ _) = _
    rw [fin_yes hX]
    congr 1
    simp
    omega
where
  head_back (m : Nat) (v : Vl) (l f r : List UInt8) (hm : m ≤ 8) (h : okV m v = true) (e : l = f ++ (putX v ++ r)) (seq : Int → Rs)
      (hseq : v.kd = 8 → seq ((f.length : Int) + 1) = .ok v ((f.length : Int) + (putX v).length)) : headV l f.length seq = .ok v ((f.length : Int) + (putX v).length) := by
    obtain ⟨k, n, d, s, ll⟩ := v
    have hX := ok_mono _ _ 8 hm h
    have hkr : 0 ≤ k ∧ k ≤ 8 := by
      rcases kinds hX with h | h | h | h | h | h | h | h | h <;> omega
    have hl : f.length < l.length := by rw [e, putX_mk]; simp
    have hkk : (l.getD ((f.length : Int)).toNat 0).toNat = k.toNat := by rw [e, putX_mk, List.cons_append]; exact kind_at f _ hkr.1 hkr.2
    unfold headV
    rw [if_neg (by omega), hkk]
    by_cases h7 : k < 7
    · rw [if_pos (by omega)]
      obtain ⟨_, hf⟩ := flat_back (f ++ [k.toNat.toUInt8]) r h7 h
      have e2 : (f ++ [k.toNat.toUInt8]) ++ (tailX k n d s ll ++ r) = l := by rw [e, putX_mk]; simp
      have e3 : (((f ++ [k.toNat.toUInt8]).length : Nat) : Int) = (f.length : Int) + 1 := by simp
      rw [e2, e3] at hf
      rw [hf, fin_yes hX, putX_mk]
      congr 1
      simp
      omega
    · rw [if_neg (by omega)]
      by_cases h8 : k = 7
      · subst h8
        rw [if_pos (show Int.toNat 7 = 7 from rfl)]
        unfold okV at h
        rw [if_pos rfl] at h
        simp only [Bool.and_eq_true, decide_eq_true_eq] at h
        obtain ⟨⟨⟨hb, h1⟩, h25⟩, hs⟩ := h
        have hb' : n = 0 ∧ d = 0 ∧ s = [] := by simp [bareV] at hb; exact ⟨hb.1.1, hb.1.2, hb.2⟩
        obtain ⟨rfl, rfl, rfl⟩ := hb'
        have e1 : tailX 7 0 0 [] ll = uvarint ll.length ++ putXs ll := by unfold tailX; simp
        rw [putX_mk, e1] at e ⊢
        have e2 : l = (f ++ [(7 : Int).toNat.toUInt8]) ++ (uvarint ll.length ++ (putXs ll ++ r)) := by rw [e]; simp
        have hu := uint_back (f ++ [(7 : Int).toNat.toUInt8]) (putXs ll ++ r) (u := ll.length) (by omega)
        rw [← e2] at hu
        have e3 : (((f ++ [(7 : Int).toNat.toUInt8]).length : Nat) : Int) = (f.length : Int) + 1 := by simp
        rw [e3] at hu
        have e4 : l = (f ++ [(7 : Int).toNat.toUInt8] ++ uvarint ll.length) ++ (putXs ll ++ r) := by rw [e2]; simp
        have hels := els_back (kind := 7) (rv := endV l) ll 0 _ r e4 (fun x hx f' r' e' => end_back (okVp_mem hs x hx).1 (okVp_mem hs x hx).2 f' r' e') (fun _ => hs)
        have e5 : (((f ++ [(7 : Int).toNat.toUInt8] ++ uvarint ll.length).length : Nat) : Int) = (f.length : Int) + 1 + (uvarint ll.length).length := by simp; omega
        rw [e5] at hels
        unfold pathV
        rw [hu]
        simp only
        rw [if_neg (fun h => h rfl), if_neg (fun h => h ⟨by omega, by omega⟩), Int.toNat_natCast, hels]
        show fin (.ok _ _) = _
        rw [fin_yes hX]
        congr 1
        simp
        omega
      · have hk8 : k = 8 := by omega
        rw [if_neg (by omega), if_pos (by omega)]
        exact hseq hk8
theorem value_back {v : Vl} (h : okX v = true) (f r : List UInt8) : valueV (f ++ (putX v ++ r)) f.length = .ok v ((f.length : Int) + (putX v).length) := by
  unfold valueV
  rw [if_neg (by simp; omega)]
  exact val_back 8 v _ f r (Nat.le_refl _) h rfl
end Go.Proofs.YtolkdmhjomampaaDoor
