/-
  Package value: textValid and Text of every valid value in memory whose text is no longer than a million bytes. Nothing that was there turns.
-/
import Derived.Test.YteonkiajgfkieaaGreatDoorM23
namespace Go.Proofs.YteonkiajgfkieaaGreatDoor
open Go.RowKit

theorem bs_app (a b : List UInt8) : bs a ++ bs b = bs (a ++ b) := by
  apply ByteArray.ext
  simp [bs]
theorem bs_size (a : List UInt8) : (bs a).size = a.length := by simp [bs, ByteArray.size]
theorem lrepl_any (s : List UInt8) (hs : s.length ≤ 100) (w : World) (G : Good w) : Calls Tryz.prog 51 #[.string (bs s), .string ⟨#[39]⟩, .string ⟨#[39, 39]⟩] w (RwT w (dbl s)) := by
  obtain ⟨m, hm⟩ := G.mx
  have h1 := bs_size s
  have h2 := ct_le s
  have k := Tryz.strings_ReplaceAll (bs s) ⟨#[39]⟩ ⟨#[39, 39]⟩ m w (by omega) hm (by decide) (by
    show (bs s).size + Lib.count s [39] * 2 ≤ _
    omega)
  refine k.mono fun e w' ⟨he, hw⟩ => ⟨?_, hw⟩
  rw [he]
  show Ending.returned (.string ⟨(Lib.replaceAll s [39] [39, 39]).toArray⟩) = _
  rw [rep_dbl]; rfl
theorem map_bs (o : List (List UInt8)) : (o.map bs).map (fun x => x.data.toList) = o := by
  rw [List.map_map]
  conv => rhs; rw [← List.map_id o]
  rfl
theorem ljoin_any (o : List (List UInt8)) (sep : List UInt8) (b cap : Nat) (w : World) (h64 : o.length ≤ 64) (hcap : o.length ≤ cap) (hb : b < w.heap.size) (hc : ∀ (j : Nat) s, o[j]? = some s → w.cell? ⟨b, j, none⟩ = some (.string (bs s))) (hl : (Lib.join o sep).length ≤ 1000000) :
    Calls Tryz.prog 53 #[.slice (some ⟨b, 0, none⟩) o.length cap, .string (bs sep)] w (RwT w (Lib.join o sep)) := by
  have k := Tryz.strings_Join b 0 cap (o.map bs) (bs sep) w (fun j x hx => by
    rw [List.getElem?_map] at hx
    obtain ⟨s, hs, rfl⟩ := Option.map_eq_some_iff.1 hx
    rw [Nat.zero_add]
    exact hc j s hs) hb (by rw [List.length_map]; omega) (by rw [List.length_map]; exact hcap) (by rw [map_bs]; show (Lib.join o sep).length ≤ _; omega)
  rw [List.length_map, map_bs] at k
  exact k
theorem itoa_txt (n : Int) : txt n = bs (Lib.itoa n) := rfl
theorem frac_tx (n d : Int) : okF n d = true → d ≠ 1 → texV n d = bs (Lib.itoa n ++ 47 :: Lib.itoa d) := fun h hd => by
  unfold texV fracTxt
  rw [if_pos h, if_neg hd, itoa_txt, itoa_txt, show (⟨#[47]⟩ : ByteArray) = bs [47] from rfl, bs_app, bs_app, List.append_assoc]
  rfl
theorem int_tx {n : Int} (h : -1000000000000000 ≤ n ∧ n ≤ 1000000000000000) : texV n 1 = bs (Lib.itoa n) := by
  have o : OkF n 1 := ⟨by decide, by decide, h.1, h.2, Nat.gcd_one_right _⟩
  unfold texV fracTxt
  rw [if_pos o.b, if_pos rfl]; rfl
theorem nf_text_w (n d : Int) (w : World) (G : Good w) (t : List UInt8) (h : texV n d = bs t) : Calls Tryz.prog 50 #[.agg #[.int .i64 n, .int .i64 d]] w (RwT w t) :=
  (nf_text n d w G).mono fun _ _ ⟨he, hf⟩ => ⟨by rw [he, h], hf.b⟩
theorem num_text_w (n : Int) (h : 1 ≤ n ∧ n ≤ 1000000) (w : World) (G : Good w) : Calls Tryz.prog 52 #[.int .i64 n] w (RwT w (Lib.itoa n)) :=
  (num_text n (by omega) (by omega) w G).mono fun _ _ ⟨he, hf⟩ => ⟨he, hf.b⟩
theorem lfrac_w (x : Vl) (ao : Option Addr) (cap : Nat) (w : World) : Calls Tryz.prog 46 #[vlv x ao cap] w (RetF w x.nn (frD x.kd x.dd)) := lfrac_any x ao cap w
theorem tex_of' {k n d : Int} {s : List UInt8} {l : List Vl} (h : okX (.mk k n d s l) = true) : texX (.mk k n d s l) =
    if k = 1 then (if n = 1 then [116, 114, 117, 101] else [102, 97, 108, 115, 101])
    else if k = 2 then Lib.itoa n
    else if k = 3 then Lib.itoa n ++ 47 :: Lib.itoa d
    else if k = 4 then 39 :: (dbl s ++ [39])
    else if k = 5 then 35 :: Lib.itoa n
    else if k = 6 then 64 :: Lib.itoa n
    else if k = 8 then 91 :: (texL [44, 32] l ++ [93])
    else if k = 7 then 60 :: (texL [32] l ++ [62])
    else [110, 117, 108, 108] := tex_of h
theorem str_len {n d : Int} {s : List UInt8} {l : List Vl} (h : okX (.mk 4 n d s l) = true) : s.length ≤ 100 := by
  unfold okX okV okFlat okStr at h
  simp at h
  exact h.2.2
theorem list_len {k n d : Int} {s : List UInt8} {l : List Vl} (h : okX (.mk k n d s l) = true) (hk : k = 7 ∨ k = 8) : l.length ≤ 64 := by
  rcases hk with rfl | rfl
  · unfold okX okV at h
    simp at h
    omega
  · unfold okX okV at h
    simp at h
    exact h.1.2
theorem dbl_len : ∀ s : List UInt8, (dbl s).length ≤ 2 * s.length
  | [] => Nat.le_refl _
  | c :: r => by
    have ih := dbl_len r
    unfold dbl
    split <;> simp <;> omega
theorem ll_ok'' {k n d : Int} {s : List UInt8} {l : List Vl} (h : okX (.mk k n d s l) = true) : AllOk l := by
  rcases kinds h with ⟨-, -, -, -, e⟩ | ⟨-, -, -, -, e⟩ | ⟨-, -, -, -, e⟩ | ⟨-, -, -, -, e⟩ | ⟨-, -, -, e⟩ | ⟨-, -, -, -, e⟩ | ⟨-, -, -, -, e⟩ | ⟨-, -, -, -, e⟩ | ⟨-, -, -, -, e⟩
  all_goals first | exact e | (rw [e]; intro v hv; cases hv)
set_option maxHeartbeats 3200000 in
set_option maxRecDepth 100000 in
theorem ltv0 (n d : Int) (s : List UInt8) (l : List Vl) (ao : Option Addr) (cap : Nat) (w : World) (G : Good w) : Calls Tryz.prog 37 #[vlv (.mk 0 n d s l) ao cap] w (RwT w ([110, 117, 108, 108])) := by
  obtain ⟨p0, f0⟩ := bx1 w (.mk 0 n d s l) ao cap
  have HG := Lib.hid G
  clear G
  simp only [vlv, Vl.kd, Vl.nn, Vl.dd, Vl.ss, Vl.ll] at f0 p0 ⊢
  obtain ⟨W, hW⟩ : ∃ W, (w.alloc (.cells #[.int .i64 0, .int .i64 n, .int .i64 d, .string (bs s), .slice ao l.length cap] 34)) = W := ⟨_, rfl⟩
  rw [hW] at f0 p0
  have c0 := p0.c0; have c1 := p0.c1; have c2 := p0.c2; have c3 := p0.c3; have c4 := p0.c4
  simp only [Vl.kd, Vl.nn, Vl.dd, Vl.ss, Vl.ll] at c0 c1 c2 c3 c4
  go_enter Tryz.func37, Tryz.ntmps37
  go_upto_region 1 with fail
  clear hW
  go_wp2
  go_ret
  exact ⟨rfl, f0.b⟩
set_option maxHeartbeats 3200000 in
set_option maxRecDepth 100000 in
theorem ltv1 (n d : Int) (s : List UInt8) (l : List Vl) (ao : Option Addr) (cap : Nat) (w : World) (h : n = 0 ∨ n = 1) (G : Good w) : Calls Tryz.prog 37 #[vlv (.mk 1 n d s l) ao cap] w (RwT w (if n = 1 then [116, 114, 117, 101] else [102, 97, 108, 115, 101])) := by
  obtain ⟨p0, f0⟩ := bx1 w (.mk 1 n d s l) ao cap
  have HG := Lib.hid G
  clear G
  simp only [vlv, Vl.kd, Vl.nn, Vl.dd, Vl.ss, Vl.ll] at f0 p0 ⊢
  obtain ⟨W, hW⟩ : ∃ W, (w.alloc (.cells #[.int .i64 1, .int .i64 n, .int .i64 d, .string (bs s), .slice ao l.length cap] 34)) = W := ⟨_, rfl⟩
  rw [hW] at f0 p0
  have c0 := p0.c0; have c1 := p0.c1; have c2 := p0.c2; have c3 := p0.c3; have c4 := p0.c4
  simp only [Vl.kd, Vl.nn, Vl.dd, Vl.ss, Vl.ll] at c0 c1 c2 c3 c4
  rcases h with rfl | rfl
  · rw [if_neg (by decide)]
    go_enter Tryz.func37, Tryz.ntmps37
    go_upto_region 1 with fail
    clear hW
    go_wp2
    go_ret
    exact ⟨rfl, f0.b⟩
  · rw [if_pos rfl]
    go_enter Tryz.func37, Tryz.ntmps37
    go_upto_region 1 with fail
    clear hW
    go_wp2
    go_ret
    exact ⟨rfl, f0.b⟩
set_option maxHeartbeats 3200000 in
set_option maxRecDepth 100000 in
theorem ltv2 (n d : Int) (s : List UInt8) (l : List Vl) (ao : Option Addr) (cap : Nat) (w : World) (h : -1000000000000000 ≤ n ∧ n ≤ 1000000000000000) (G : Good w) : Calls Tryz.prog 37 #[vlv (.mk 2 n d s l) ao cap] w (RwT w (Lib.itoa n)) := by
  obtain ⟨p0, f0⟩ := bx1 w (.mk 2 n d s l) ao cap
  have HG := Lib.hid G
  clear G
  simp only [vlv, Vl.kd, Vl.nn, Vl.dd, Vl.ss, Vl.ll] at f0 p0 ⊢
  obtain ⟨W, hW⟩ : ∃ W, (w.alloc (.cells #[.int .i64 2, .int .i64 n, .int .i64 d, .string (bs s), .slice ao l.length cap] 34)) = W := ⟨_, rfl⟩
  rw [hW] at f0 p0
  have c0 := p0.c0; have c1 := p0.c1; have c2 := p0.c2; have c3 := p0.c3; have c4 := p0.c4
  simp only [Vl.kd, Vl.nn, Vl.dd, Vl.ss, Vl.ll] at c0 c1 c2 c3 c4
  have FR := Lib.hid (fun w => lfrac_w (.mk 2 n d s l) ao cap w)
  have HT := Lib.hid (fun w G => nf_text_w n 1 w G (Lib.itoa n) (int_tx h))
  have e3 : frD 2 d = 1 := rfl
  simp only [vlv, Vl.kd, Vl.nn, Vl.dd, e3] at FR
  clear e3 h
  generalize Lib.itoa n = t at *
  go_enter Tryz.func37, Tryz.ntmps37
  go_upto_region 1 with fail
  clear hW
  go_wp2_with fail
  go_at_call 46; refine (FR.out _).mono ?_; rintro e2 w2 ⟨rfl, f2⟩
  have G2 := HG.out.on (f0.trans f2)
  go_wp2_with fail
  go_at_call 50; refine (HT.out _ G2).mono ?_; rintro e3 w3 ⟨rfl, f3⟩
  go_wp2
  go_ret
  exact ⟨rfl, (f0.trans f2).w.trans f3⟩
set_option maxHeartbeats 3200000 in
set_option maxRecDepth 100000 in
theorem ltv3 (n d : Int) (s : List UInt8) (l : List Vl) (ao : Option Addr) (cap : Nat) (w : World) (h : okF n d = true) (hd : 2 ≤ d) (G : Good w) : Calls Tryz.prog 37 #[vlv (.mk 3 n d s l) ao cap] w (RwT w (Lib.itoa n ++ 47 :: Lib.itoa d)) := by
  obtain ⟨p0, f0⟩ := bx1 w (.mk 3 n d s l) ao cap
  have HG := Lib.hid G
  clear G
  simp only [vlv, Vl.kd, Vl.nn, Vl.dd, Vl.ss, Vl.ll] at f0 p0 ⊢
  obtain ⟨W, hW⟩ : ∃ W, (w.alloc (.cells #[.int .i64 3, .int .i64 n, .int .i64 d, .string (bs s), .slice ao l.length cap] 34)) = W := ⟨_, rfl⟩
  rw [hW] at f0 p0
  have c0 := p0.c0; have c1 := p0.c1; have c2 := p0.c2; have c3 := p0.c3; have c4 := p0.c4
  simp only [Vl.kd, Vl.nn, Vl.dd, Vl.ss, Vl.ll] at c0 c1 c2 c3 c4
  have FR := Lib.hid (fun w => lfrac_w (.mk 3 n d s l) ao cap w)
  have HT := Lib.hid (fun w G => nf_text_w n d w G (Lib.itoa n ++ 47 :: Lib.itoa d) (frac_tx n d h (by omega)))
  have e3 : frD 3 d = d := rfl
  simp only [vlv, Vl.kd, Vl.nn, Vl.dd, e3] at FR
  clear e3 h hd
  generalize Lib.itoa n ++ 47 :: Lib.itoa d = t at *
  go_enter Tryz.func37, Tryz.ntmps37
  go_upto_region 1 with fail
  clear hW
  go_wp2_with fail
  go_at_call 46; refine (FR.out _).mono ?_; rintro e2 w2 ⟨rfl, f2⟩
  have G2 := HG.out.on (f0.trans f2)
  go_wp2_with fail
  go_at_call 50; refine (HT.out _ G2).mono ?_; rintro e3 w3 ⟨rfl, f3⟩
  go_wp2
  go_ret
  exact ⟨rfl, (f0.trans f2).w.trans f3⟩
set_option maxHeartbeats 3200000 in
set_option maxRecDepth 100000 in
theorem ltv4 (n d : Int) (s : List UInt8) (l : List Vl) (ao : Option Addr) (cap : Nat) (w : World) (h : s.length ≤ 100) (G : Good w) : Calls Tryz.prog 37 #[vlv (.mk 4 n d s l) ao cap] w (RwT w (39 :: (dbl s ++ [39]))) := by
  obtain ⟨p0, f0⟩ := bx1 w (.mk 4 n d s l) ao cap
  have HG := Lib.hid G
  clear G
  simp only [vlv, Vl.kd, Vl.nn, Vl.dd, Vl.ss, Vl.ll] at f0 p0 ⊢
  obtain ⟨W, hW⟩ : ∃ W, (w.alloc (.cells #[.int .i64 4, .int .i64 n, .int .i64 d, .string (bs s), .slice ao l.length cap] 34)) = W := ⟨_, rfl⟩
  rw [hW] at f0 p0
  have c0 := p0.c0; have c1 := p0.c1; have c2 := p0.c2; have c3 := p0.c3; have c4 := p0.c4
  simp only [Vl.kd, Vl.nn, Vl.dd, Vl.ss, Vl.ll] at c0 c1 c2 c3 c4
  have RP := Lib.hid (fun w G => lrepl_any s h w G)
  have hd : (dbl s).length ≤ 200 := by
    have := dbl_len s
    omega
  have HE := Lib.hid (show (⟨#[39]⟩ : ByteArray) ++ bs (dbl s) ++ ⟨#[39]⟩ = bs (39 :: (dbl s ++ [39])) by
    rw [show (⟨#[39]⟩ : ByteArray) = bs [39] from rfl, bs_app, bs_app]; rfl)
  have hz := bs_size (dbl s)
  clear h
  unfold RwT at RP
  generalize bs (dbl s) = t at *
  have z1 : ¬ (9223372036854775807 < 1 + t.size) := by omega
  have z2 : ¬ (9223372036854775807 < 1 + t.size + 1) := by omega
  clear hd hz
  go_enter Tryz.func37, Tryz.ntmps37
  go_upto_region 1 with fail
  clear hW
  have G2 := HG.out.on f0
  go_wp2_with fail
  go_at_call 51; refine (RP.out _ G2).mono ?_; rintro e2 w2 ⟨rfl, f2⟩
  go_wp2
  go_ret
  exact ⟨ret_str HE.out, f0.w.trans f2⟩
set_option maxHeartbeats 3200000 in
set_option maxRecDepth 100000 in
theorem ltv5 (n d : Int) (s : List UInt8) (l : List Vl) (ao : Option Addr) (cap : Nat) (w : World) (h : 1 ≤ n ∧ n ≤ 1000000) (G : Good w) : Calls Tryz.prog 37 #[vlv (.mk 5 n d s l) ao cap] w (RwT w (35 :: Lib.itoa n)) := by
  obtain ⟨p0, f0⟩ := bx1 w (.mk 5 n d s l) ao cap
  have HG := Lib.hid G
  clear G
  simp only [vlv, Vl.kd, Vl.nn, Vl.dd, Vl.ss, Vl.ll] at f0 p0 ⊢
  obtain ⟨W, hW⟩ : ∃ W, (w.alloc (.cells #[.int .i64 5, .int .i64 n, .int .i64 d, .string (bs s), .slice ao l.length cap] 34)) = W := ⟨_, rfl⟩
  rw [hW] at f0 p0
  have c0 := p0.c0; have c1 := p0.c1; have c2 := p0.c2; have c3 := p0.c3; have c4 := p0.c4
  simp only [Vl.kd, Vl.nn, Vl.dd, Vl.ss, Vl.ll] at c0 c1 c2 c3 c4
  have NT := Lib.hid (fun w G => num_text_w n h w G)
  have HE := Lib.hid (show (⟨#[35]⟩ : ByteArray) ++ bs (Lib.itoa n) = bs (35 :: Lib.itoa n) by
    rw [show (⟨#[35]⟩ : ByteArray) = bs [35] from rfl, bs_app]; rfl)
  have hz : (bs (Lib.itoa n)).size ≤ 21 := txt_size n (by omega) (by omega)
  clear h
  unfold RwT at NT
  generalize bs (Lib.itoa n) = t at *
  have z1 : ¬ (9223372036854775807 < 1 + t.size) := by omega
  clear hz
  go_enter Tryz.func37, Tryz.ntmps37
  go_upto_region 1 with fail
  clear hW
  have G2 := HG.out.on f0
  go_wp2_with fail
  go_at_call 52; refine (NT.out _ G2).mono ?_; rintro e2 w2 ⟨rfl, f2⟩
  go_wp2
  go_ret
  exact ⟨ret_str HE.out, f0.w.trans f2⟩
set_option maxHeartbeats 3200000 in
set_option maxRecDepth 100000 in
theorem ltv6 (n d : Int) (s : List UInt8) (l : List Vl) (ao : Option Addr) (cap : Nat) (w : World) (h : 1 ≤ n ∧ n ≤ 1000000) (G : Good w) : Calls Tryz.prog 37 #[vlv (.mk 6 n d s l) ao cap] w (RwT w (64 :: Lib.itoa n)) := by
  obtain ⟨p0, f0⟩ := bx1 w (.mk 6 n d s l) ao cap
  have HG := Lib.hid G
  clear G
  simp only [vlv, Vl.kd, Vl.nn, Vl.dd, Vl.ss, Vl.ll] at f0 p0 ⊢
  obtain ⟨W, hW⟩ : ∃ W, (w.alloc (.cells #[.int .i64 6, .int .i64 n, .int .i64 d, .string (bs s), .slice ao l.length cap] 34)) = W := ⟨_, rfl⟩
  rw [hW] at f0 p0
  have c0 := p0.c0; have c1 := p0.c1; have c2 := p0.c2; have c3 := p0.c3; have c4 := p0.c4
  simp only [Vl.kd, Vl.nn, Vl.dd, Vl.ss, Vl.ll] at c0 c1 c2 c3 c4
  have NT := Lib.hid (fun w G => num_text_w n h w G)
  have HE := Lib.hid (show (⟨#[64]⟩ : ByteArray) ++ bs (Lib.itoa n) = bs (64 :: Lib.itoa n) by
    rw [show (⟨#[64]⟩ : ByteArray) = bs [64] from rfl, bs_app]; rfl)
  have hz : (bs (Lib.itoa n)).size ≤ 21 := txt_size n (by omega) (by omega)
  clear h
  unfold RwT at NT
  generalize bs (Lib.itoa n) = t at *
  have z1 : ¬ (9223372036854775807 < 1 + t.size) := by omega
  clear hz
  go_enter Tryz.func37, Tryz.ntmps37
  go_upto_region 1 with fail
  clear hW
  have G2 := HG.out.on f0
  go_wp2_with fail
  go_at_call 52; refine (NT.out _ G2).mono ?_; rintro e2 w2 ⟨rfl, f2⟩
  go_wp2
  go_ret
  exact ⟨ret_str HE.out, f0.w.trans f2⟩
set_option maxHeartbeats 3200000 in
set_option maxRecDepth 100000 in
theorem ltv7 (n d : Int) (s : List UInt8) (l : List Vl) (ao : Option Addr) (cap : Nat) (w : World) (hO : ∀ x, x ∈ l → TxAt x) (h64 : l.length ≤ 64) (hs : SlV w ao l cap) (hl : (texL [32] l).length ≤ 1000000) (G : Good w) : Calls Tryz.prog 37 #[vlv (.mk 7 n d s l) ao cap] w (RwT w (60 :: (texL [32] l ++ [62]))) := by
  obtain ⟨p0, f0⟩ := bx1 w (.mk 7 n d s l) ao cap
  have HG := Lib.hid G
  clear G
  simp only [vlv, Vl.kd, Vl.nn, Vl.dd, Vl.ss, Vl.ll] at f0 p0 ⊢
  obtain ⟨W, hW⟩ : ∃ W, (w.alloc (.cells #[.int .i64 7, .int .i64 n, .int .i64 d, .string (bs s), .slice ao l.length cap] 34)) = W := ⟨_, rfl⟩
  rw [hW] at f0 p0
  have c0 := p0.c0; have c1 := p0.c1; have c2 := p0.c2; have c3 := p0.c3; have c4 := p0.c4
  simp only [Vl.kd, Vl.nn, Vl.dd, Vl.ss, Vl.ll] at c0 c1 c2 c3 c4
  have TS := Lib.hid (fun w' (hf : Fur w w') => ltexts_any l hO h64 ao cap w' (hs.on hf) (HG.out.on hf))
  have HJ := Lib.hid (fun b cp w h1 h2 h3 => ljoin_any (l.map texX) [32] b cp w (by rw [List.length_map]; exact h64) h1 h2 h3 (by rw [join_tex]; exact hl))
  rw [join_tex] at HJ
  have HE := Lib.hid (show (⟨#[60]⟩ : ByteArray) ++ bs (texL [32] l) ++ ⟨#[62]⟩ = bs (60 :: (texL [32] l ++ [62])) by
    rw [show (⟨#[60]⟩ : ByteArray) = bs [60] from rfl, show (⟨#[62]⟩ : ByteArray) = bs [62] from rfl, bs_app, bs_app]; rfl)
  have hz := bs_size (texL [32] l)
  clear hO hs
  unfold RwT at HJ
  generalize bs (texL [32] l) = t at *
  have z1 : ¬ (9223372036854775807 < 1 + t.size) := by omega
  have z2 : ¬ (9223372036854775807 < 1 + t.size + 1) := by omega
  clear hz hl h64
  go_enter Tryz.func37, Tryz.ntmps37
  go_upto_region 1 with fail
  clear hW
  go_wp2_with fail
  go_at_call 54; refine (TS.out _ f0).mono ?_; rintro e2 w2 ⟨b2, cp2, rfl, h1, h2, h3, f2⟩
  have HK := Lib.hid (HJ.out b2 cp2 w2 h1 h2 h3)
  clear HJ h1 h2 h3
  generalize (l.map texX).length = ln at *
  go_wp2_with fail
  go_at_call 53; refine (HK.out).mono ?_; rintro e3 w3 ⟨rfl, f3⟩
  go_wp2
  go_ret
  exact ⟨ret_str HE.out, (f0.w.trans f2).trans f3⟩
set_option maxHeartbeats 3200000 in
set_option maxRecDepth 100000 in
theorem ltv8 (n d : Int) (s : List UInt8) (l : List Vl) (ao : Option Addr) (cap : Nat) (w : World) (hO : ∀ x, x ∈ l → TxAt x) (h64 : l.length ≤ 64) (hs : SlV w ao l cap) (hl : (texL [44, 32] l).length ≤ 1000000) (G : Good w) : Calls Tryz.prog 37 #[vlv (.mk 8 n d s l) ao cap] w (RwT w (91 :: (texL [44, 32] l ++ [93]))) := by
  obtain ⟨p0, f0⟩ := bx1 w (.mk 8 n d s l) ao cap
  have HG := Lib.hid G
  clear G
  simp only [vlv, Vl.kd, Vl.nn, Vl.dd, Vl.ss, Vl.ll] at f0 p0 ⊢
  obtain ⟨W, hW⟩ : ∃ W, (w.alloc (.cells #[.int .i64 8, .int .i64 n, .int .i64 d, .string (bs s), .slice ao l.length cap] 34)) = W := ⟨_, rfl⟩
  rw [hW] at f0 p0
  have c0 := p0.c0; have c1 := p0.c1; have c2 := p0.c2; have c3 := p0.c3; have c4 := p0.c4
  simp only [Vl.kd, Vl.nn, Vl.dd, Vl.ss, Vl.ll] at c0 c1 c2 c3 c4
  have TS := Lib.hid (fun w' (hf : Fur w w') => ltexts_any l hO h64 ao cap w' (hs.on hf) (HG.out.on hf))
  have HJ := Lib.hid (fun b cp w h1 h2 h3 => ljoin_any (l.map texX) [44, 32] b cp w (by rw [List.length_map]; exact h64) h1 h2 h3 (by rw [join_tex]; exact hl))
  rw [join_tex] at HJ
  have HE := Lib.hid (show (⟨#[91]⟩ : ByteArray) ++ bs (texL [44, 32] l) ++ ⟨#[93]⟩ = bs (91 :: (texL [44, 32] l ++ [93])) by
    rw [show (⟨#[91]⟩ : ByteArray) = bs [91] from rfl, show (⟨#[93]⟩ : ByteArray) = bs [93] from rfl, bs_app, bs_app]; rfl)
  have hz := bs_size (texL [44, 32] l)
  clear hO hs
  unfold RwT at HJ
  generalize bs (texL [44, 32] l) = t at *
  have z1 : ¬ (9223372036854775807 < 1 + t.size) := by omega
  have z2 : ¬ (9223372036854775807 < 1 + t.size + 1) := by omega
  clear hz hl h64
  go_enter Tryz.func37, Tryz.ntmps37
  go_upto_region 1 with fail
  clear hW
  go_wp2_with fail
  go_at_call 54; refine (TS.out _ f0).mono ?_; rintro e2 w2 ⟨b2, cp2, rfl, h1, h2, h3, f2⟩
  have HK := Lib.hid (HJ.out b2 cp2 w2 h1 h2 h3)
  clear HJ h1 h2 h3
  generalize (l.map texX).length = ln at *
  go_wp2_with fail
  go_at_call 53; refine (HK.out).mono ?_; rintro e3 w3 ⟨rfl, f3⟩
  go_wp2
  go_ret
  exact ⟨ret_str HE.out, (f0.w.trans f2).trans f3⟩
theorem texR_le (by_ : List UInt8) : ∀ (l : List Vl) (u : Vl), u ∈ l → (texX u).length ≤ (texR by_ l).length
  | [], _, h => by cases h
  | x :: r, u, h => by
    unfold texR
    rw [List.length_append, List.length_append]
    rcases List.mem_cons.1 h with e | e
    · rw [e]; omega
    · have := texR_le by_ r u e; omega
theorem texL_le (by_ : List UInt8) (l : List Vl) (u : Vl) (h : u ∈ l) : (texX u).length ≤ (texL by_ l).length := by
  cases l with
  | nil => cases h
  | cons x r =>
    unfold texL
    rw [List.length_append]
    rcases List.mem_cons.1 h with e | e
    · rw [e]; omega
    · have := texR_le by_ r u e; omega
theorem ltv_by {k n d : Int} {s : List UInt8} {l : List Vl} (hx : okX (.mk k n d s l) = true) (hlen : (texX (.mk k n d s l)).length ≤ 1000000) (hO : (∀ u, u ∈ l → (texX u).length ≤ 1000000) → ∀ u, u ∈ l → TxAt u) : TxAt (.mk k n d s l) := by
  intro ao ca w _ hs G
  rw [tex_of hx] at hlen ⊢
  have hL := list_len hx
  have hS : k = 4 → s.length ≤ 100 := fun e => by subst e; exact str_len hx
  rcases kinds hx with ⟨rfl, -⟩ | ⟨rfl, h, -⟩ | ⟨rfl, h, -⟩ | ⟨rfl, h, hd, -⟩ | ⟨rfl, -⟩ | ⟨rfl, h, -⟩ | ⟨rfl, h, -⟩ | ⟨rfl, -⟩ | ⟨rfl, -⟩
  · exact ltv0 n d s l ao ca w G
  · exact ltv1 n d s l ao ca w h G
  · exact ltv2 n d s l ao ca w h G
  · exact ltv3 n d s l ao ca w h hd G
  · exact ltv4 n d s l ao ca w (hS rfl) G
  · exact ltv5 n d s l ao ca w h G
  · exact ltv6 n d s l ao ca w h G
  · have hl : (texL [32] l).length ≤ 1000000 := by simp at hlen; omega
    exact ltv7 n d s l ao ca w (hO fun u hu => Nat.le_trans (texL_le _ l u hu) hl) (hL (.inl rfl)) hs hl G
  · have hl : (texL [44, 32] l).length ≤ 1000000 := by simp at hlen; omega
    exact ltv8 n d s l ao ca w (hO fun u hu => Nat.le_trans (texL_le _ l u hu) hl) (hL (.inr rfl)) hs hl G
mutual
theorem ltv_all : ∀ x : Vl, okX x = true → (texX x).length ≤ 1000000 → TxAt x
  | .mk _ _ _ _ l => fun hx hlen => ltv_by hx hlen (fun hq u hu => ltv_list l u hu (ll_ok'' hx u hu) (hq u hu))
theorem ltv_list : ∀ l : List Vl, ∀ u, u ∈ l → okX u = true → (texX u).length ≤ 1000000 → TxAt u
  | [], _, hu => by cases hu
  | x :: r, u, hu => (List.mem_cons.1 hu).elim (fun e => e ▸ ltv_all x) (fun e => ltv_list r u e)
end
set_option maxHeartbeats 800000 in
theorem ltext_any (x : Vl) (ao : Option Addr) (cap : Nat) (w : World) (hi : Vin x) (hs : SlV w ao x.ll cap) (G : Good w) (hlen : (texX x).length ≤ 1000000) :
    Calls Tryz.prog 23 #[vlv x ao cap] w (RwT w (texX x)) := by
  obtain ⟨p0, f0⟩ := bx1 w x ao cap
  have HV := Lib.hid (fun w' (hf : Fur w w') => lvalid_any x ao cap w' hi (hs.on hf))
  have HN := Lib.hid (fun (h : okX x = false) => show texX x = [63] by obtain ⟨k, n, d, s, l⟩ := x; unfold texX; rw [if_pos h])
  have HT := Lib.hid (fun (h : okX x = true) w' (hf : Fur w w') => ltv_all x h hlen ao cap w' hi (hs.on hf) (G.on hf))
  clear hi hs hlen G
  generalize texX x = t at *
  generalize okX x = p at *
  unfold vlv at *
  cases p
  · have HE := Lib.hid (HN.out rfl)
    go_enter Tryz.func23, Tryz.ntmps23
    go_wp2_with fail
    go_at_call 25; refine (HV.out _ f0).mono ?_; rintro e1 w1 ⟨rfl, f1⟩
    go_wp2
    go_ret
    exact ⟨ret_str (by rw [HE.out]; rfl), (f0.trans f1).w⟩
  · have HK := Lib.hid (HT.out rfl)
    clear HT HN
    go_enter Tryz.func23, Tryz.ntmps23
    go_wp2_with fail
    go_at_call 25; refine (HV.out _ f0).mono ?_; rintro e1 w1 ⟨rfl, f1⟩
    have q := p0.on f1
    have c0 := q.c0; have c1 := q.c1; have c2 := q.c2; have c3 := q.c3; have c4 := q.c4
    go_wp2_with fail
    go_at_call 37; refine (HK.out _ (f0.trans f1)).mono ?_; rintro e2 w2 ⟨rfl, f2⟩
    go_wp2
    go_ret
    exact ⟨rfl, (f0.trans f1).w.trans f2⟩
end Go.Proofs.YteonkiajgfkieaaGreatDoor
