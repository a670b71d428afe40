/-
  TxD; Tl: texts of one kind in one file; each part says what it holds.
-/
import Derived.Test.YtfbijdoomkgodaaGreatDoorTK26
import Derived.OrdersHeld
import Derived.RegionTactic
import Derived.Test.YtfbijdoomkgodaaGreatDoorTK01

/-! Package value: textValid and Text of every valid value in memory whose text is no longer than a million bytes. Nothing that was there turns. -/
namespace Go.Proofs.YtfbijdoomkgodaaGreatDoor
open Go.RowKit

theorem bs_app (a b : List UInt8) : bs a ++ bs b = bs (a ++ b) := by
  apply ByteArray.ext
  simp [bs]
theorem lrepl_any (s : List UInt8) (hs : s.length ≤ 100) (w : World) (G : Good w) : Calls Tryz.prog 137 #[.string (bs s), .string ⟨#[39]⟩, .string ⟨#[39, 39]⟩] w (RwT w (dbl s)) := by
  obtain ⟨m, hm⟩ := G.mx
  have h1 := bs_size s
  have h2 := ct_le s
  have k := Tryz.strings_ReplaceAll (bs s) ⟨#[39]⟩ ⟨#[39, 39]⟩ m w (by omega) hm (by decide) (by
    show (bs s).size + Lib.count s [39] * 2 ≤ _
    omega)
  refine k.mono fun e w' ⟨he, hw⟩ => ⟨?_, hw⟩
  rw [he]
  show Ending.returned (.string ⟨(Lib.replaceAll s [39] [39, 39]).toArray⟩) = _
  rw [rep_dbl]; rfl
theorem map_bsT (o : List (List UInt8)) : (o.map bs).map (fun x => x.data.toList) = o := by
  rw [List.map_map]
  conv => rhs; rw [← List.map_id o]
  rfl
theorem ljoin_any (o : List (List UInt8)) (sep : List UInt8) (b cap : Nat) (w : World) (h64 : o.length ≤ 64) (hcap : o.length ≤ cap) (hb : b < w.heap.size) (hc : ∀ (j : Nat) s, o[j]? = some s → w.cell? ⟨b, j, none⟩ = some (.string (bs s))) (hl : (Lib.join o sep).length ≤ 1000000) :
    Calls Tryz.prog 56 #[.slice (some ⟨b, 0, none⟩) o.length cap, .string (bs sep)] w (RwT w (Lib.join o sep)) := by
  have k := Tryz.strings_Join b 0 cap (o.map bs) (bs sep) w (fun j x hx => by
    rw [List.getElem?_map] at hx
    obtain ⟨s, hs, rfl⟩ := Option.map_eq_some_iff.1 hx
    rw [Nat.zero_add]
    exact hc j s hs) hb (by rw [List.length_map]; omega) (by rw [List.length_map]; exact hcap) (by rw [map_bsT]; show (Lib.join o sep).length ≤ _; omega)
  rw [List.length_map, map_bsT] at k
  exact k
theorem itoa_txt (n : Int) : txt n = bs (Lib.itoa n) := rfl
theorem frac_tx (n d : Int) : okF n d = true → d ≠ 1 → texV n d = bs (Lib.itoa n ++ 47 :: Lib.itoa d) := fun h hd => by
  unfold texV fracTxt
  rw [if_pos h, if_neg hd, itoa_txt, itoa_txt, show (⟨#[47]⟩ : ByteArray) = bs [47] from rfl, bs_app, bs_app, List.append_assoc]
  rfl
theorem int_tx {n : Int} (h : -1000000000000000 ≤ n ∧ n ≤ 1000000000000000) : texV n 1 = bs (Lib.itoa n) := by
  have o : OkF n 1 := ⟨by decide, by decide, h.1, h.2, Nat.gcd_one_right _⟩
  unfold texV fracTxt
  rw [if_pos o.b, if_pos rfl]; rfl
theorem nf_text_w (n d : Int) (w : World) (G : Good w) (t : List UInt8) (h : texV n d = bs t) : Calls Tryz.prog 135 #[.agg #[.int .i64 n, .int .i64 d]] w (RwT w t) :=
  (nf_text n d w G).mono fun _ _ ⟨he, hf⟩ => ⟨by rw [he, h], hf.b⟩
theorem num_text_w (n : Int) (h : 1 ≤ n ∧ n ≤ 1000000) (w : World) (G : Good w) : Calls Tryz.prog 138 #[.int .i64 n] w (RwT w (Lib.itoa n)) :=
  (num_text n (by omega) (by omega) w G).mono fun _ _ ⟨he, hf⟩ => ⟨he, hf.b⟩
theorem lfrac_w (x : Vl) (ao : Option Addr) (cap : Nat) (w : World) : Calls Tryz.prog 136 #[vlv x ao cap] w (RetF w x.nn (frD x.kd x.dd)) := lfrac_any x ao cap w
theorem tex_of' {k n d : Int} {s : List UInt8} {l : List Vl} (h : okX (.mk k n d s l) = true) : texX (.mk k n d s l) =
    if k = 1 then (if n = 1 then [116, 114, 117, 101] else [102, 97, 108, 115, 101])
    else if k = 2 then Lib.itoa n
    else if k = 3 then Lib.itoa n ++ 47 :: Lib.itoa d
    else if k = 4 then 39 :: (dbl s ++ [39])
    else if k = 5 then 35 :: Lib.itoa n
    else if k = 6 then 64 :: Lib.itoa n
    else if k = 8 then 91 :: (texL [44, 32] l ++ [93])
    else if k = 7 then 60 :: (texL [32] l ++ [62])
    else [110, 117, 108, 108] := tex_of h
theorem str_len {n d : Int} {s : List UInt8} {l : List Vl} (h : okX (.mk 4 n d s l) = true) : s.length ≤ 100 := by
  unfold okX okV okFlat okStr at h
  simp at h
  exact h.2.2
theorem list_len {k n d : Int} {s : List UInt8} {l : List Vl} (h : okX (.mk k n d s l) = true) (hk : k = 7 ∨ k = 8) : l.length ≤ 64 := by
  rcases hk with rfl | rfl
  · unfold okX okV at h
    simp at h
    omega
  · unfold okX okV at h
    simp at h
    exact h.1.2
theorem dbl_len : ∀ s : List UInt8, (dbl s).length ≤ 2 * s.length
  | [] => Nat.le_refl _
  | c :: r => by
    have ih := dbl_len r
    unfold dbl
    split <;> simp <;> omega
theorem ll_ok'' {k n d : Int} {s : List UInt8} {l : List Vl} (h : okX (.mk k n d s l) = true) : AllOk l := by
  rcases kinds h with ⟨-, -, -, -, e⟩ | ⟨-, -, -, -, e⟩ | ⟨-, -, -, -, e⟩ | ⟨-, -, -, -, e⟩ | ⟨-, -, -, e⟩ | ⟨-, -, -, -, e⟩ | ⟨-, -, -, -, e⟩ | ⟨-, -, -, -, e⟩ | ⟨-, -, -, -, e⟩
  all_goals first | exact e | (rw [e]; intro v hv; cases hv)
set_option maxHeartbeats 3200000 in
set_option maxRecDepth 100000 in
theorem ltv0 (n d : Int) (s : List UInt8) (l : List Vl) (ao : Option Addr) (cap : Nat) (w : World) (G : Good w) : Calls Tryz.prog 95 #[vlv (.mk 0 n d s l) ao cap] w (RwT w ([110, 117, 108, 108])) := by
  obtain ⟨p0, f0⟩ := bx1 w (.mk 0 n d s l) ao cap
  have HG := Lib.hid G
  clear G
  simp only [vlv, Vl.kd, Vl.nn, Vl.dd, Vl.ss, Vl.ll] at f0 p0 ⊢
  obtain ⟨W, hW⟩ : ∃ W, (w.alloc (.cells #[.int .i64 0, .int .i64 n, .int .i64 d, .string (bs s), .slice ao l.length cap] 28)) = W := ⟨_, rfl⟩
  rw [hW] at f0 p0
  have c0 := p0.c0; have c1 := p0.c1; have c2 := p0.c2; have c3 := p0.c3; have c4 := p0.c4
  simp only [Vl.kd, Vl.nn, Vl.dd, Vl.ss, Vl.ll] at c0 c1 c2 c3 c4
  go_enter Tryz.func95, Tryz.ntmps95
  go_upto_region 1 with fail
  clear hW
  go_wp2
  go_ret
  exact ⟨rfl, f0.b⟩
set_option maxHeartbeats 3200000 in
set_option maxRecDepth 100000 in
theorem ltv1 (n d : Int) (s : List UInt8) (l : List Vl) (ao : Option Addr) (cap : Nat) (w : World) (h : n = 0 ∨ n = 1) (G : Good w) : Calls Tryz.prog 95 #[vlv (.mk 1 n d s l) ao cap] w (RwT w (if n = 1 then [116, 114, 117, 101] else [102, 97, 108, 115, 101])) := by
  obtain ⟨p0, f0⟩ := bx1 w (.mk 1 n d s l) ao cap
  have HG := Lib.hid G
  clear G
  simp only [vlv, Vl.kd, Vl.nn, Vl.dd, Vl.ss, Vl.ll] at f0 p0 ⊢
  obtain ⟨W, hW⟩ : ∃ W, (w.alloc (.cells #[.int .i64 1, .int .i64 n, .int .i64 d, .string (bs s), .slice ao l.length cap] 28)) = W := ⟨_, rfl⟩
  rw [hW] at f0 p0
  have c0 := p0.c0; have c1 := p0.c1; have c2 := p0.c2; have c3 := p0.c3; have c4 := p0.c4
  simp only [Vl.kd, Vl.nn, Vl.dd, Vl.ss, Vl.ll] at c0 c1 c2 c3 c4
  rcases h with rfl | rfl
  · rw [if_neg (by decide)]
    go_enter Tryz.func95, Tryz.ntmps95
    go_upto_region 1 with fail
    clear hW
    go_wp2
    go_ret
    exact ⟨rfl, f0.b⟩
  · rw [if_pos rfl]
    go_enter Tryz.func95, Tryz.ntmps95
    go_upto_region 1 with fail
    clear hW
    go_wp2
    go_ret
    exact ⟨rfl, f0.b⟩
set_option maxHeartbeats 3200000 in
set_option maxRecDepth 100000 in
theorem ltv2 (n d : Int) (s : List UInt8) (l : List Vl) (ao : Option Addr) (cap : Nat) (w : World) (h : -1000000000000000 ≤ n ∧ n ≤ 1000000000000000) (G : Good w) : Calls Tryz.prog 95 #[vlv (.mk 2 n d s l) ao cap] w (RwT w (Lib.itoa n)) := by
  obtain ⟨p0, f0⟩ := bx1 w (.mk 2 n d s l) ao cap
  have HG := Lib.hid G
  clear G
  simp only [vlv, Vl.kd, Vl.nn, Vl.dd, Vl.ss, Vl.ll] at f0 p0 ⊢
  obtain ⟨W, hW⟩ : ∃ W, (w.alloc (.cells #[.int .i64 2, .int .i64 n, .int .i64 d, .string (bs s), .slice ao l.length cap] 28)) = W := ⟨_, rfl⟩
  rw [hW] at f0 p0
  have c0 := p0.c0; have c1 := p0.c1; have c2 := p0.c2; have c3 := p0.c3; have c4 := p0.c4
  simp only [Vl.kd, Vl.nn, Vl.dd, Vl.ss, Vl.ll] at c0 c1 c2 c3 c4
  have FR := Lib.hid (fun w => lfrac_w (.mk 2 n d s l) ao cap w)
  have HT := Lib.hid (fun w G => nf_text_w n 1 w G (Lib.itoa n) (int_tx h))
  have e3 : frD 2 d = 1 := rfl
  simp only [vlv, Vl.kd, Vl.nn, Vl.dd, e3] at FR
  clear e3 h
  generalize Lib.itoa n = t at *
  go_enter Tryz.func95, Tryz.ntmps95
  go_upto_region 1 with fail
  clear hW
  go_wp2_with fail
  go_at_call 136; refine (FR.out _).mono ?_; rintro e2 w2 ⟨rfl, f2⟩
  have G2 := HG.out.on (f0.trans f2)
  go_wp2_with fail
  go_at_call 135; refine (HT.out _ G2).mono ?_; rintro e3 w3 ⟨rfl, f3⟩
  go_wp2
  go_ret
  exact ⟨rfl, (f0.trans f2).w.trans f3⟩
set_option maxHeartbeats 3200000 in
set_option maxRecDepth 100000 in
theorem ltv3 (n d : Int) (s : List UInt8) (l : List Vl) (ao : Option Addr) (cap : Nat) (w : World) (h : okF n d = true) (hd : 2 ≤ d) (G : Good w) : Calls Tryz.prog 95 #[vlv (.mk 3 n d s l) ao cap] w (RwT w (Lib.itoa n ++ 47 :: Lib.itoa d)) := by
  obtain ⟨p0, f0⟩ := bx1 w (.mk 3 n d s l) ao cap
  have HG := Lib.hid G
  clear G
  simp only [vlv, Vl.kd, Vl.nn, Vl.dd, Vl.ss, Vl.ll] at f0 p0 ⊢
  obtain ⟨W, hW⟩ : ∃ W, (w.alloc (.cells #[.int .i64 3, .int .i64 n, .int .i64 d, .string (bs s), .slice ao l.length cap] 28)) = W := ⟨_, rfl⟩
  rw [hW] at f0 p0
  have c0 := p0.c0; have c1 := p0.c1; have c2 := p0.c2; have c3 := p0.c3; have c4 := p0.c4
  simp only [Vl.kd, Vl.nn, Vl.dd, Vl.ss, Vl.ll] at c0 c1 c2 c3 c4
  have FR := Lib.hid (fun w => lfrac_w (.mk 3 n d s l) ao cap w)
  have HT := Lib.hid (fun w G => nf_text_w n d w G (Lib.itoa n ++ 47 :: Lib.itoa d) (frac_tx n d h (by omega)))
  have e3 : frD 3 d = d := rfl
  simp only [vlv, Vl.kd, Vl.nn, Vl.dd, e3] at FR
  clear e3 h hd
  generalize Lib.itoa n ++ 47 :: Lib.itoa d = t at *
  go_enter Tryz.func95, Tryz.ntmps95
  go_upto_region 1 with fail
  clear hW
  go_wp2_with fail
  go_at_call 136; refine (FR.out _).mono ?_; rintro e2 w2 ⟨rfl, f2⟩
  have G2 := HG.out.on (f0.trans f2)
  go_wp2_with fail
  go_at_call 135; refine (HT.out _ G2).mono ?_; rintro e3 w3 ⟨rfl, f3⟩
  go_wp2
  go_ret
  exact ⟨rfl, (f0.trans f2).w.trans f3⟩
set_option maxHeartbeats 3200000 in
set_option maxRecDepth 100000 in
theorem ltv4 (n d : Int) (s : List UInt8) (l : List Vl) (ao : Option Addr) (cap : Nat) (w : World) (h : s.length ≤ 100) (G : Good w) : Calls Tryz.prog 95 #[vlv (.mk 4 n d s l) ao cap] w (RwT w (39 :: (dbl s ++ [39]))) := by
  obtain ⟨p0, f0⟩ := bx1 w (.mk 4 n d s l) ao cap
  have HG := Lib.hid G
  clear G
  simp only [vlv, Vl.kd, Vl.nn, Vl.dd, Vl.ss, Vl.ll] at f0 p0 ⊢
  obtain ⟨W, hW⟩ : ∃ W, (w.alloc (.cells #[.int .i64 4, .int .i64 n, .int .i64 d, .string (bs s), .slice ao l.length cap] 28)) = W := ⟨_, rfl⟩
  rw [hW] at f0 p0
  have c0 := p0.c0; have c1 := p0.c1; have c2 := p0.c2; have c3 := p0.c3; have c4 := p0.c4
  simp only [Vl.kd, Vl.nn, Vl.dd, Vl.ss, Vl.ll] at c0 c1 c2 c3 c4
  have RP := Lib.hid (fun w G => lrepl_any s h w G)
  have hd : (dbl s).length ≤ 200 := by
    have := dbl_len s
    omega
  have HE := Lib.hid (show (⟨#[39]⟩ : ByteArray) ++ bs (dbl s) ++ ⟨#[39]⟩ = bs (39 :: (dbl s ++ [39])) by
    rw [show (⟨#[39]⟩ : ByteArray) = bs [39] from rfl, bs_app, bs_app]; rfl)
  have hz := bs_size (dbl s)
  clear h
  unfold RwT at RP
  generalize bs (dbl s) = t at *
  have z1 : ¬ (9223372036854775807 < 1 + t.size) := by omega
  have z2 : ¬ (9223372036854775807 < 1 + t.size + 1) := by omega
  clear hd hz
  go_enter Tryz.func95, Tryz.ntmps95
  go_upto_region 1 with fail
  clear hW
  have G2 := HG.out.on f0
  go_wp2_with fail
  go_at_call 137; refine (RP.out _ G2).mono ?_; rintro e2 w2 ⟨rfl, f2⟩
  go_wp2
  go_ret
  exact ⟨ret_str HE.out, f0.w.trans f2⟩
set_option maxHeartbeats 3200000 in
set_option maxRecDepth 100000 in
theorem ltv5 (n d : Int) (s : List UInt8) (l : List Vl) (ao : Option Addr) (cap : Nat) (w : World) (h : 1 ≤ n ∧ n ≤ 1000000) (G : Good w) : Calls Tryz.prog 95 #[vlv (.mk 5 n d s l) ao cap] w (RwT w (35 :: Lib.itoa n)) := by
  obtain ⟨p0, f0⟩ := bx1 w (.mk 5 n d s l) ao cap
  have HG := Lib.hid G
  clear G
  simp only [vlv, Vl.kd, Vl.nn, Vl.dd, Vl.ss, Vl.ll] at f0 p0 ⊢
  obtain ⟨W, hW⟩ : ∃ W, (w.alloc (.cells #[.int .i64 5, .int .i64 n, .int .i64 d, .string (bs s), .slice ao l.length cap] 28)) = W := ⟨_, rfl⟩
  rw [hW] at f0 p0
  have c0 := p0.c0; have c1 := p0.c1; have c2 := p0.c2; have c3 := p0.c3; have c4 := p0.c4
  simp only [Vl.kd, Vl.nn, Vl.dd, Vl.ss, Vl.ll] at c0 c1 c2 c3 c4
  have NT := Lib.hid (fun w G => num_text_w n h w G)
  have HE := Lib.hid (show (⟨#[35]⟩ : ByteArray) ++ bs (Lib.itoa n) = bs (35 :: Lib.itoa n) by
    rw [show (⟨#[35]⟩ : ByteArray) = bs [35] from rfl, bs_app]; rfl)
  have hz : (bs (Lib.itoa n)).size ≤ 21 := txt_size n (by omega) (by omega)
  clear h
  unfold RwT at NT
  generalize bs (Lib.itoa n) = t at *
  have z1 : ¬ (9223372036854775807 < 1 + t.size) := by omega
  clear hz
  go_enter Tryz.func95, Tryz.ntmps95
  go_upto_region 1 with fail
  clear hW
  have G2 := HG.out.on f0
  go_wp2_with fail
  go_at_call 138; refine (NT.out _ G2).mono ?_; rintro e2 w2 ⟨rfl, f2⟩
  go_wp2
  go_ret
  exact ⟨ret_str HE.out, f0.w.trans f2⟩
set_option maxHeartbeats 3200000 in
set_option maxRecDepth 100000 in
theorem ltv6 (n d : Int) (s : List UInt8) (l : List Vl) (ao : Option Addr) (cap : Nat) (w : World) (h : 1 ≤ n ∧ n ≤ 1000000) (G : Good w) : Calls Tryz.prog 95 #[vlv (.mk 6 n d s l) ao cap] w (RwT w (64 :: Lib.itoa n)) := by
  obtain ⟨p0, f0⟩ := bx1 w (.mk 6 n d s l) ao cap
  have HG := Lib.hid G
  clear G
  simp only [vlv, Vl.kd, Vl.nn, Vl.dd, Vl.ss, Vl.ll] at f0 p0 ⊢
  obtain ⟨W, hW⟩ : ∃ W, (w.alloc (.cells #[.int .i64 6, .int .i64 n, .int .i64 d, .string (bs s), .slice ao l.length cap] 28)) = W := ⟨_, rfl⟩
  rw [hW] at f0 p0
  have c0 := p0.c0; have c1 := p0.c1; have c2 := p0.c2; have c3 := p0.c3; have c4 := p0.c4
  simp only [Vl.kd, Vl.nn, Vl.dd, Vl.ss, Vl.ll] at c0 c1 c2 c3 c4
  have NT := Lib.hid (fun w G => num_text_w n h w G)
  have HE := Lib.hid (show (⟨#[64]⟩ : ByteArray) ++ bs (Lib.itoa n) = bs (64 :: Lib.itoa n) by
    rw [show (⟨#[64]⟩ : ByteArray) = bs [64] from rfl, bs_app]; rfl)
  have hz : (bs (Lib.itoa n)).size ≤ 21 := txt_size n (by omega) (by omega)
  clear h
  unfold RwT at NT
  generalize bs (Lib.itoa n) = t at *
  have z1 : ¬ (9223372036854775807 < 1 + t.size) := by omega
  clear hz
  go_enter Tryz.func95, Tryz.ntmps95
  go_upto_region 1 with fail
  clear hW
  have G2 := HG.out.on f0
  go_wp2_with fail
  go_at_call 138; refine (NT.out _ G2).mono ?_; rintro e2 w2 ⟨rfl, f2⟩
  go_wp2
  go_ret
  exact ⟨ret_str HE.out, f0.w.trans f2⟩
set_option maxHeartbeats 3200000 in
set_option maxRecDepth 100000 in
theorem ltv7 (n d : Int) (s : List UInt8) (l : List Vl) (ao : Option Addr) (cap : Nat) (w : World) (hO : ∀ x, x ∈ l → TxAt x) (h64 : l.length ≤ 64) (hs : SlV w ao l cap) (hl : (texL [32] l).length ≤ 1000000) (G : Good w) : Calls Tryz.prog 95 #[vlv (.mk 7 n d s l) ao cap] w (RwT w (60 :: (texL [32] l ++ [62]))) := by
  obtain ⟨p0, f0⟩ := bx1 w (.mk 7 n d s l) ao cap
  have HG := Lib.hid G
  clear G
  simp only [vlv, Vl.kd, Vl.nn, Vl.dd, Vl.ss, Vl.ll] at f0 p0 ⊢
  obtain ⟨W, hW⟩ : ∃ W, (w.alloc (.cells #[.int .i64 7, .int .i64 n, .int .i64 d, .string (bs s), .slice ao l.length cap] 28)) = W := ⟨_, rfl⟩
  rw [hW] at f0 p0
  have c0 := p0.c0; have c1 := p0.c1; have c2 := p0.c2; have c3 := p0.c3; have c4 := p0.c4
  simp only [Vl.kd, Vl.nn, Vl.dd, Vl.ss, Vl.ll] at c0 c1 c2 c3 c4
  have TS := Lib.hid (fun w' (hf : Fur w w') => ltexts_any l hO h64 ao cap w' (hs.on hf) (HG.out.on hf))
  have HJ := Lib.hid (fun b cp w h1 h2 h3 => ljoin_any (l.map texX) [32] b cp w (by rw [List.length_map]; exact h64) h1 h2 h3 (by rw [join_tex]; exact hl))
  rw [join_tex] at HJ
  have HE := Lib.hid (show (⟨#[60]⟩ : ByteArray) ++ bs (texL [32] l) ++ ⟨#[62]⟩ = bs (60 :: (texL [32] l ++ [62])) by
    rw [show (⟨#[60]⟩ : ByteArray) = bs [60] from rfl, show (⟨#[62]⟩ : ByteArray) = bs [62] from rfl, bs_app, bs_app]; rfl)
  have hz := bs_size (texL [32] l)
  clear hO hs
  unfold RwT at HJ
  generalize bs (texL [32] l) = t at *
  have z1 : ¬ (9223372036854775807 < 1 + t.size) := by omega
  have z2 : ¬ (9223372036854775807 < 1 + t.size + 1) := by omega
  clear hz hl h64
  go_enter Tryz.func95, Tryz.ntmps95
  go_upto_region 1 with fail
  clear hW
  go_wp2_with fail
  go_at_call 139; refine (TS.out _ f0).mono ?_; rintro e2 w2 ⟨b2, cp2, rfl, h1, h2, h3, f2⟩
  have HK := Lib.hid (HJ.out b2 cp2 w2 h1 h2 h3)
  clear HJ h1 h2 h3
  generalize (l.map texX).length = ln at *
  go_wp2_with fail
  go_at_call 56; refine (HK.out).mono ?_; rintro e3 w3 ⟨rfl, f3⟩
  go_wp2
  go_ret
  exact ⟨ret_str HE.out, (f0.w.trans f2).trans f3⟩
set_option maxHeartbeats 3200000 in
set_option maxRecDepth 100000 in
theorem ltv8 (n d : Int) (s : List UInt8) (l : List Vl) (ao : Option Addr) (cap : Nat) (w : World) (hO : ∀ x, x ∈ l → TxAt x) (h64 : l.length ≤ 64) (hs : SlV w ao l cap) (hl : (texL [44, 32] l).length ≤ 1000000) (G : Good w) : Calls Tryz.prog 95 #[vlv (.mk 8 n d s l) ao cap] w (RwT w (91 :: (texL [44, 32] l ++ [93]))) := by
  obtain ⟨p0, f0⟩ := bx1 w (.mk 8 n d s l) ao cap
  have HG := Lib.hid G
  clear G
  simp only [vlv, Vl.kd, Vl.nn, Vl.dd, Vl.ss, Vl.ll] at f0 p0 ⊢
  obtain ⟨W, hW⟩ : ∃ W, (w.alloc (.cells #[.int .i64 8, .int .i64 n, .int .i64 d, .string (bs s), .slice ao l.length cap] 28)) = W := ⟨_, rfl⟩
  rw [hW] at f0 p0
  have c0 := p0.c0; have c1 := p0.c1; have c2 := p0.c2; have c3 := p0.c3; have c4 := p0.c4
  simp only [Vl.kd, Vl.nn, Vl.dd, Vl.ss, Vl.ll] at c0 c1 c2 c3 c4
  have TS := Lib.hid (fun w' (hf : Fur w w') => ltexts_any l hO h64 ao cap w' (hs.on hf) (HG.out.on hf))
  have HJ := Lib.hid (fun b cp w h1 h2 h3 => ljoin_any (l.map texX) [44, 32] b cp w (by rw [List.length_map]; exact h64) h1 h2 h3 (by rw [join_tex]; exact hl))
  rw [join_tex] at HJ
  have HE := Lib.hid (show (⟨#[91]⟩ : ByteArray) ++ bs (texL [44, 32] l) ++ ⟨#[93]⟩ = bs (91 :: (texL [44, 32] l ++ [93])) by
    rw [show (⟨#[91]⟩ : ByteArray) = bs [91] from rfl, show (⟨#[93]⟩ : ByteArray) = bs [93] from rfl, bs_app, bs_app]; rfl)
  have hz := bs_size (texL [44, 32] l)
  clear hO hs
  unfold RwT at HJ
  generalize bs (texL [44, 32] l) = t at *
  have z1 : ¬ (9223372036854775807 < 1 + t.size) := by omega
  have z2 : ¬ (9223372036854775807 < 1 + t.size + 1) := by omega
  clear hz hl h64
  go_enter Tryz.func95, Tryz.ntmps95
  go_upto_region 1 with fail
  clear hW
  go_wp2_with fail
  go_at_call 139; refine (TS.out _ f0).mono ?_; rintro e2 w2 ⟨b2, cp2, rfl, h1, h2, h3, f2⟩
  have HK := Lib.hid (HJ.out b2 cp2 w2 h1 h2 h3)
  clear HJ h1 h2 h3
  generalize (l.map texX).length = ln at *
  go_wp2_with fail
  go_at_call 56; refine (HK.out).mono ?_; rintro e3 w3 ⟨rfl, f3⟩
  go_wp2
  go_ret
  exact ⟨ret_str HE.out, (f0.w.trans f2).trans f3⟩
theorem texR_le (by_ : List UInt8) : ∀ (l : List Vl) (u : Vl), u ∈ l → (texX u).length ≤ (texR by_ l).length
  | [], _, h => by cases h
  | x :: r, u, h => by
    unfold texR
    rw [List.length_append, List.length_append]
    rcases List.mem_cons.1 h with e | e
    · rw [e]; omega
    · have := texR_le by_ r u e; omega
theorem texL_le (by_ : List UInt8) (l : List Vl) (u : Vl) (h : u ∈ l) : (texX u).length ≤ (texL by_ l).length := by
  cases l with
  | nil => cases h
  | cons x r =>
    unfold texL
    rw [List.length_append]
    rcases List.mem_cons.1 h with e | e
    · rw [e]; omega
    · have := texR_le by_ r u e; omega
theorem ltv_by {k n d : Int} {s : List UInt8} {l : List Vl} (hx : okX (.mk k n d s l) = true) (hlen : (texX (.mk k n d s l)).length ≤ 1000000) (hO : (∀ u, u ∈ l → (texX u).length ≤ 1000000) → ∀ u, u ∈ l → TxAt u) : TxAt (.mk k n d s l) := by
  intro ao ca w _ hs G
  rw [tex_of hx] at hlen ⊢
  have hL := list_len hx
  have hS : k = 4 → s.length ≤ 100 := fun e => by subst e; exact str_len hx
  rcases kinds hx with ⟨rfl, -⟩ | ⟨rfl, h, -⟩ | ⟨rfl, h, -⟩ | ⟨rfl, h, hd, -⟩ | ⟨rfl, -⟩ | ⟨rfl, h, -⟩ | ⟨rfl, h, -⟩ | ⟨rfl, -⟩ | ⟨rfl, -⟩
  · exact ltv0 n d s l ao ca w G
  · exact ltv1 n d s l ao ca w h G
  · exact ltv2 n d s l ao ca w h G
  · exact ltv3 n d s l ao ca w h hd G
  · exact ltv4 n d s l ao ca w (hS rfl) G
  · exact ltv5 n d s l ao ca w h G
  · exact ltv6 n d s l ao ca w h G
  · have hl : (texL [32] l).length ≤ 1000000 := by simp at hlen; omega
    exact ltv7 n d s l ao ca w (hO fun u hu => Nat.le_trans (texL_le _ l u hu) hl) (hL (.inl rfl)) hs hl G
  · have hl : (texL [44, 32] l).length ≤ 1000000 := by simp at hlen; omega
    exact ltv8 n d s l ao ca w (hO fun u hu => Nat.le_trans (texL_le _ l u hu) hl) (hL (.inr rfl)) hs hl G
mutual
theorem ltv_all : ∀ x : Vl, okX x = true → (texX x).length ≤ 1000000 → TxAt x
  | .mk _ _ _ _ l => fun hx hlen => ltv_by hx hlen (fun hq u hu => ltv_list l u hu (ll_ok'' hx u hu) (hq u hu))
theorem ltv_list : ∀ l : List Vl, ∀ u, u ∈ l → okX u = true → (texX u).length ≤ 1000000 → TxAt u
  | [], _, hu => by cases hu
  | x :: r, u, hu => (List.mem_cons.1 hu).elim (fun e => e ▸ ltv_all x) (fun e => ltv_list r u e)
end
set_option maxHeartbeats 800000 in
theorem ltext_any (x : Vl) (ao : Option Addr) (cap : Nat) (w : World) (hi : Vin x) (hs : SlV w ao x.ll cap) (G : Good w) (hlen : (texX x).length ≤ 1000000) :
    Calls Tryz.prog 55 #[vlv x ao cap] w (RwT w (texX x)) := by
  obtain ⟨p0, f0⟩ := bx1 w x ao cap
  have HV := Lib.hid (fun w' (hf : Fur w w') => lvalid_any x ao cap w' hi (hs.on hf))
  have HN := Lib.hid (fun (h : okX x = false) => show texX x = [63] by obtain ⟨k, n, d, s, l⟩ := x; unfold texX; rw [if_pos h])
  have HT := Lib.hid (fun (h : okX x = true) w' (hf : Fur w w') => ltv_all x h hlen ao cap w' hi (hs.on hf) (G.on hf))
  clear hi hs hlen G
  generalize texX x = t at *
  generalize okX x = p at *
  unfold vlv at *
  cases p
  · have HE := Lib.hid (HN.out rfl)
    go_enter Tryz.func55, Tryz.ntmps55
    go_wp2_with fail
    go_at_call 74; refine (HV.out _ f0).mono ?_; rintro e1 w1 ⟨rfl, f1⟩
    go_wp2
    go_ret
    exact ⟨ret_str (by rw [HE.out]; rfl), (f0.trans f1).w⟩
  · have HK := Lib.hid (HT.out rfl)
    clear HT HN
    go_enter Tryz.func55, Tryz.ntmps55
    go_wp2_with fail
    go_at_call 74; refine (HV.out _ f0).mono ?_; rintro e1 w1 ⟨rfl, f1⟩
    have q := p0.on f1
    have c0 := q.c0; have c1 := q.c1; have c2 := q.c2; have c3 := q.c3; have c4 := q.c4
    go_wp2_with fail
    go_at_call 95; refine (HK.out _ (f0.trans f1)).mono ?_; rintro e2 w2 ⟨rfl, f2⟩
    go_wp2
    go_ret
    exact ⟨rfl, (f0.trans f1).w.trans f2⟩
end Go.Proofs.YtfbijdoomkgodaaGreatDoor

/-! A region that draws its order and ends in stores: a load may be taken first where the condition that it wants holds behind each operation that does not wait for it. No program here. -/
namespace Go.Proofs.YtfbijdoomkgodaaGreatDoor
open Go

/-- Does operation j wait, by way of others, for number i? -/
def waitsFor (ops : Array Oper) (i : Nat) : Nat → Nat → Bool
  | 0, j => j == i
  | n + 1, j => j == i || (match ops[j]? with | some o => o.after.any fun e => Region.binds .any e && waitsFor ops i n e.on | none => false)
/-- What has come up has those behind it for which it waits. -/
def Cl (ops : Array Oper) (L : Array Bool) : Prop := ∀ (k : Nat) (o : Oper), ops[k]? = some o → L.getD k false = true → ∀ e ∈ o.after, Region.binds .any e = true → L.getD e.on false = true
def clB (ops : Array Oper) (L : Array Bool) : Bool := (List.range ops.size).all fun k => !L.getD k false || (match ops[k]? with | some o => o.after.all fun e => !Region.binds .any e || L.getD e.on false | none => true)
theorem cl_of {ops : Array Oper} {L : Array Bool} (h : clB ops L = true) : Cl ops L := by
  intro k o ho hk e he hb
  have q := List.all_eq_true.1 h k (List.mem_range.2 (Array.getElem?_eq_some_iff.1 ho).1)
  rw [ho] at q
  simp only [hk, Bool.not_true, Bool.false_or] at q
  have := Array.all_eq_true_iff_forall_mem.1 q e he
  rw [hb] at this
  simpa using this
theorem Cl.set {ops : Array Oper} {L : Array Bool} {j : Nat} (h : Cl ops L) (hj : j ∈ Region.ready .any ops L) : Cl ops (L.setIfInBounds j true) := by
  intro k o ho hk e he hb
  by_cases g : j = k
  · subst g
    obtain ⟨_, o', ho', ha⟩ := mem_ready.1 hj
    rw [ho] at ho'
    obtain rfl := Option.some.inj ho'
    exact getD_set_true (ha e he hb)
  · rw [getD_set_ne false g] at hk
    exact getD_set_true (h k o ho hk e he hb)
theorem Cl.back {ops : Array Oper} {L : Array Bool} (h : Cl ops L) {i : Nat} : ∀ (n j : Nat), waitsFor ops i n j = true → L.getD j false = true → L.getD i false = true
  | 0, j, hw, hl => by
    have e : j = i := by simpa [waitsFor] using hw
    rw [← e]; exact hl
  | n + 1, j, hw, hl => by
    unfold waitsFor at hw
    rw [Bool.or_eq_true] at hw
    rcases hw with e | hw
    · have e : j = i := by simpa using e
      rw [← e]; exact hl
    · cases ho : ops[j]? with
      | none => rw [ho] at hw; cases hw
      | some o =>
        rw [ho] at hw
        have hw' : (o.after.any fun e => Region.binds .any e && waitsFor ops i n e.on) = true := hw
        obtain ⟨q, hq, hb⟩ := Array.any_eq_true.1 hw'
        rw [Bool.and_eq_true] at hb
        exact h.back n _ hb.2 (h j o ho hl _ (Array.getElem_mem hq) hb.1)

/-- Has one of N come up? -/
def some1 (N : List Nat) (L : Array Bool) : Bool := N.any fun k => L.getD k false
theorem some1_iff {N : List Nat} {L : Array Bool} : some1 N L = true ↔ ∃ k ∈ N, L.getD k false = true := List.any_eq_true
theorem some1_set {N : List Nat} {L : Array Bool} (i : Nat) (h : some1 N L = true) : some1 N (L.setIfInBounds i true) = true := by
  obtain ⟨k, hk, h⟩ := some1_iff.1 h
  exact some1_iff.2 ⟨k, hk, getD_set_true h⟩
theorem some1_of_set {N : List Nat} {L : Array Bool} {i : Nat} (hi : i ∉ N) (h : some1 N (L.setIfInBounds i true) = true) : some1 N L = true := by
  obtain ⟨k, hk, h⟩ := some1_iff.1 h
  refine some1_iff.2 ⟨k, hk, ?_⟩
  rwa [getD_set_ne false (fun e => hi (by rw [e]; exact hk))] at h

section
variable {P : Program} {ops : Array Oper} {Q : Exit → Act → World → Prop} {S : World → Prop} {N : List Nat}
/-- Whatever order is picked: the condition holds until one of N has come up. -/
def Lst (P : Program) (ops : Array Oper) (Q : Exit → Act → World → Prop) (N : List Nat) (S : World → Prop) : Nat → Array Bool → Act → World → Prop
  | 0, L, a, w => Region.ready .any ops L = [] ∧ Q .normal a w
  | n + 1, L, a, w => (Region.ready .any ops L = [] → Q .normal a w) ∧ ∀ i ∈ Region.ready .any ops L, wpOp P ops Q i (fun a' w' => (some1 N (L.setIfInBounds i true) = true ∨ S w') ∧ Lst P ops Q N S n (L.setIfInBounds i true) a' w') a w
theorem Lst.any : ∀ (n : Nat) (L : Array Bool) (a : Act) (w : World), Lst P ops Q N S n L a w → wpAny P .any ops Q n L a w
  | 0, _, _, _, h => h
  | n + 1, _, _, _, h => ⟨h.1, fun i hi => wpOp_mono (fun a' w' k => Lst.any n _ a' w' k.2) (h.2 i hi)⟩
theorem lst_start {id : Nat} {a : Act} {w : World} (N : List Nat) (S : World → Prop) (hm : P.follows .mixedOrders = true) (h : Lst P ops Q N S ops.size (Array.replicate ops.size false) a w.drew) : (Code.region id ops true).wp P Q a w :=
  wp_region_any hm (Lst.any _ _ _ _ h)
theorem lst_done {L : Array Bool} {a : Act} {w : World} (hr : Region.ready .any ops L = []) (h : Q .normal a w) : ∀ n, Lst P ops Q N S n L a w
  | 0 => ⟨hr, h⟩
  | _ + 1 => ⟨fun _ => h, fun i hi => by rw [hr] at hi; cases hi⟩
/-- What yields its value in every world that meets S' may come first, where S' holds behind each other operation until this one has come. -/
theorem lst_first {i : Nat} {o : Oper} {v : Value} {S' : World → Prop} (hi : ops[i]? = some o) (hiN : i ∉ N) (hsel : ∀ (j : Nat) (o : Oper) cs b, ops[j]? = some o → o.op ≠ .select cs b)
    (hN : (∀ w, S' w) ∨ ((∀ w, S w → S' w) ∧ ∀ j ∈ N, waitsFor ops i ops.size j = true)) (hQ : ∀ c a w, Q (.panic c) (a.put o.dst v) w → Q (.panic c) a w) (n : Nat) : ∀ (L : Array Bool) (a : Act) (w : World), Cl ops L →
    (∀ j oj, ops[j]? = some oj → j ≠ i → L.getD j true = false → (∀ e ∈ oj.after, Region.binds .any e = true → e.on ≠ i) → o.apart ops oj = true) →
    i ∈ Region.ready .any ops L → YieldsIf P ops S' o v a → S' w → (some1 N L = true ∨ S w) → Lst P ops Q N S n (L.setIfInBounds i true) (a.put o.dst v) w → Lst P ops Q N S (n + 1) L a w := by
  induction n with
  | zero =>
    intro L a w _ _ hr hy hS hD H
    refine ⟨fun e => absurd hr (by rw [e]; simp), fun j hj => ?_⟩
    rcases Nat.decEq j i with g | rfl
    · exact absurd (ready_mono hj g) (by rw [H.1]; simp)
    · exact hy.wpOp hi hS ⟨hD.imp (some1_set _) id, H⟩
  | succ n ih =>
    intro L a w hcl hfr hr hy hS hD H
    refine ⟨fun e => absurd hr (by rw [e]; simp), fun j hj => ?_⟩
    rcases Nat.decEq j i with g | rfl
    case isTrue => exact hy.wpOp hi hS ⟨hD.imp (some1_set _) id, H⟩
    obtain ⟨hju, oj, hoj, haf⟩ := mem_ready.1 hj
    have hiu := (mem_ready.1 hr).1
    have hio : ¬ L.getD i false = true := by
      intro q
      rw [Array.getD_eq_getD_getElem?] at hiu q
      cases hq : L[i]? with
      | none => rw [hq] at hiu; cases hiu
      | some b => rw [hq] at hiu q; simp at hiu q; rw [hiu] at q; cases q
    have hno : ∀ e ∈ oj.after, Region.binds .any e = true → e.on ≠ i := fun e he hb k => hio (by have := haf e he hb; rwa [k] at this)
    have hstill : i ∈ Region.ready .any ops (L.setIfInBounds j true) := ready_mono hr (fun k => g k.symm)
    refine wpOp_mono (fun a' w' q => ?_) (wpOp_putIf hoj (hfr j oj hoj g hju hno) (fun cs b => hsel i o cs b hi) (fun cs b => hsel j oj cs b hoj) hQ hy (H.2 j (ready_mono hj g)))
    obtain ⟨hy', hD', H'⟩ := q
    rw [Array.setIfInBounds_comm _ _ (fun k => g k.symm)] at H' hD'
    have hD2 : some1 N (L.setIfInBounds j true) = true ∨ S w' := hD'.imp (some1_of_set hiN) id
    have hSw : S' w' := by
      rcases hN with hN | ⟨hS2, hN⟩
      · exact hN w'
      · refine hS2 w' (hD2.resolve_left fun q => ?_)
        obtain ⟨k, hk, hkl⟩ := some1_iff.1 q
        have h2 : (L.setIfInBounds j true).getD i false = true := (hcl.set hj).back ops.size k (hN k hk) hkl
        rw [getD_set_ne false g] at h2
        exact hio h2
    refine ⟨hD2, ih _ a' w' (hcl.set hj) (fun k ok hk hki hun hn => hfr k ok hk hki ?_ hn) hstill hy' hSw hD2 H'⟩
    by_cases e : j = k
    · subst e; exact hju
    · rw [getD_set_ne true e] at hun; exact hun
/-! The moves. -/
def outN (ops : Array Oper) (i : Nat) (N : List Nat) : Bool := !N.contains i && N.all fun j => waitsFor ops i ops.size j
/-- A load: what it reads stands in S. -/
theorem takeL {i : Nat} {d : Option Tmp} {o : Oper} {v : Value} {n : Nat} {L : Array Bool} {a : Act} {w : World} (hi : ops[i]? = some o) (hd : o.dst = d)
    (hs : Region.noSelect ops = true) (hc : clB ops L = true) (hN : outN ops i N = true) (hf : Region.free .any ops L i = true) (hr : (Region.ready .any ops L).contains i = true)
    (hQ : ∀ c a w, Q (.panic c) (a.put d v) w → Q (.panic c) a w) (hy : YieldsIf P ops S o v a) (hS : S w)
    (h : Lst P ops Q N S n (L.setIfInBounds i true) (a.put d v) w) : Lst P ops Q N S (n + 1) L a w := by
  subst hd
  unfold outN at hN
  rw [Bool.and_eq_true] at hN
  exact lst_first hi (by simpa using hN.1) (Region.noSelect_spec hs) (.inr ⟨fun _ h => h, fun j hj => List.all_eq_true.1 hN.2 j hj⟩) hQ n L a w (cl_of hc) (Region.free_spec hi hf) (by simpa using hr) hy hS (.inr hS) h
/-- What looks at no world. -/
theorem takeP {i : Nat} {d : Option Tmp} {o : Oper} {v : Value} {n : Nat} {L : Array Bool} {a : Act} {w : World} (hi : ops[i]? = some o) (hd : o.dst = d)
    (hs : Region.noSelect ops = true) (hc : clB ops L = true) (hN : N.contains i = false) (hf : Region.free .any ops L i = true) (hr : (Region.ready .any ops L).contains i = true)
    (hQ : ∀ c a w, Q (.panic c) (a.put d v) w → Q (.panic c) a w) (hy : YieldsIf P ops (fun _ => True) o v a) (hS : some1 N L = true ∨ S w)
    (h : Lst P ops Q N S n (L.setIfInBounds i true) (a.put d v) w) : Lst P ops Q N S (n + 1) L a w := by
  subst hd
  exact lst_first hi (by simpa using hN) (Region.noSelect_spec hs) (.inl fun _ => trivial) hQ n L a w (cl_of hc) (Region.free_spec hi hf) (by simpa using hr) hy trivial hS h
/-- One alone may come up; behind it the condition is shown anew. -/
theorem oneL {i : Nat} {o : Oper} {n : Nat} {L : Array Bool} {a : Act} {w : World} (hi : ops[i]? = some o) (hr : Region.ready .any ops L = [i])
    (h : ∀ K : Act → World → Prop, (∀ a' w', S w' → Lst P ops Q N S n (L.setIfInBounds i true) a' w' → K a' w') → if Region.wanted o (yielded ops a.tmps) = true then Oper.wp P o a w K Q else K (a.put o.dst undef) w) : Lst P ops Q N S (n + 1) L a w := by
  refine ⟨fun e => absurd hr (by rw [e]; simp), fun j hj => ?_⟩
  obtain rfl : j = i := by rw [hr] at hj; simpa using hj
  exact wpOp_step hi fun K hK => h K fun a' w' hS hw => hK a' w' ⟨.inr hS, hw⟩
/-- One of N, or one behind them: nothing is asked. -/
theorem outL {i : Nat} {o : Oper} {n : Nat} {L : Array Bool} {a : Act} {w : World} (hi : ops[i]? = some o) (hr : Region.ready .any ops L = [i]) (hn : some1 N (L.setIfInBounds i true) = true)
    (h : ∀ K : Act → World → Prop, (∀ a' w', Lst P ops Q N S n (L.setIfInBounds i true) a' w' → K a' w') → if Region.wanted o (yielded ops a.tmps) = true then Oper.wp P o a w K Q else K (a.put o.dst undef) w) : Lst P ops Q N S (n + 1) L a w := by
  refine ⟨fun e => absurd hr (by rw [e]; simp), fun j hj => ?_⟩
  obtain rfl : j = i := by rw [hr] at hj; simpa using hj
  exact wpOp_step hi fun K hK => h K fun a' w' hw => hK a' w' ⟨.inl hn, hw⟩
end
end Go.Proofs.YtfbijdoomkgodaaGreatDoor
