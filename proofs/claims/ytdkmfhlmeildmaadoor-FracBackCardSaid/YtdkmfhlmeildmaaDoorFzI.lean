/-
  Package frac: Parse gives the valid fraction whose text the string is and true, or no fraction and false, for every string of at most 281474976710656 bytes, where the table of powers of ten and the two error variables read as laid. Nothing that was there turns.
-/
import Derived.Test.YtdkmfhlmeildmaaDoorFzP
namespace Go.Proofs.YtdkmfhlmeildmaaDoor
open Go.RowKit

theorem ctA_size (s : ByteArray) : (ctA s).size ≤ s.size := by
  unfold ctA
  split
  · rw [ByteArray.size_extract]; omega
  · exact Nat.le_refl _
theorem ctB_size (s : ByteArray) : (ctB s).size ≤ s.size := by
  unfold ctB
  split
  · rw [ByteArray.size_extract]; omega
  · exact Nat.zero_le _
set_option maxHeartbeats 3200000 in
set_option maxRecDepth 100000 in
theorem nf_parse (s : ByteArray) (hs : s.size ≤ 281474976710656) (w : World) (G : Good w) : Calls Tryd.prog 24 #[.string s] w (RetFB w (prN s) (prD s) (prB s)) := by
  have hm : s.size ≤ maxLen := by unfold maxLen; omega
  obtain ⟨p0, f0⟩ := box1 w 0 0
  have GG := Lib.hid G
  have CC := Lib.hid (fun w => cut_any s hm w)
  have zA := ctA_size s
  have zB := ctB_size s
  have CA := Lib.hid (fun w (G : Good w) => num_parse (ctA s) (by omega) w G)
  have CB := Lib.hid (fun w (G : Good w) => num_parse (ctB s) (by omega) w G)
  have K1 := Lib.hid (@pr_1 s)
  have K2 := Lib.hid (@pr_2 s)
  have K3 := Lib.hid (@pr_3 s)
  have K4 := Lib.hid (@pr_4 s)
  have K5 := Lib.hid (@pr_5 s)
  have O1 := Lib.hid (fun h => (ok_one (par_txt (s := ctA s) h).1).b)
  generalize ctA s = A at *
  generalize ctB s = B at *
  generalize parV A = va at *
  generalize parV B = vb at *
  clear zA zB hm hs
  cases hA : parB A
  · obtain ⟨r1, r2, r3⟩ := K1.out hA
    rw [r1, r2, r3]
    rw [hA] at CA
    clear K1 K2 K3 K4 K5 O1 r1 r2 r3 hA CB
    generalize ctF s = F at *
    go_enter Tryd.func24, Tryd.ntmps24
    go_wp2_with fail
    go_at_call 50; refine (CC.out _).mono ?_; rintro e1 w1 ⟨rfl, f1⟩
    replace p0 := p0.on f1
    replace f0 := f0.trans f1
    go_wp2_with fail
    go_at_call 51; refine (CA.out _ (GG.out.on f0)).mono ?_; rintro e1 w2 ⟨rfl, f2⟩
    replace p0 := p0.on f2
    replace f0 := f0.trans f2
    clear f1 f2
    go_upto_region 7 with fail
    have f3 := (Fur.refl w2).alloc (.cells #[.int .i64 va, .int .i64 1] 23)
    have p2' := p0.on f3
    have f04 := f0.trans f3
    generalize w2.alloc (.cells #[.int .i64 va, .int .i64 1] 23) = w3 at *
    clear p0 f0
    have c20 := p2'.c0
    have c21 := p2'.c1
    have z20 := p2'.f0 0
    have z21 := p2'.f0 1
    go_wp2
    try simp only [Exit.inBlock, Exit.then]
    exact fr_ret_put rfl rfl rfl p2' f04 (by omega)
  cases hF : ctF s
  · obtain ⟨r1, r2, r3⟩ := K2.out hA hF
    rw [r1, r2, r3]
    have o1 := O1.out hA
    have CV := Lib.hid (fun w => nf_valid va 1 w)
    rw [o1] at CV
    rw [hA] at CA
    rw [hF] at CC
    clear K1 K2 K3 K4 K5 O1 r1 r2 r3 hA CB hF o1
    go_enter Tryd.func24, Tryd.ntmps24
    go_wp2_with fail
    go_at_call 50; refine (CC.out _).mono ?_; rintro e1 w1 ⟨rfl, f1⟩
    replace p0 := p0.on f1
    replace f0 := f0.trans f1
    go_wp2_with fail
    go_at_call 51; refine (CA.out _ (GG.out.on f0)).mono ?_; rintro e1 w2 ⟨rfl, f2⟩
    replace p0 := p0.on f2
    replace f0 := f0.trans f2
    clear f1 f2
    go_upto_region 7 with fail
    obtain ⟨p1, f3⟩ := box1 w2 va 1
    replace p0 := p0.on f3
    replace f0 := f0.trans f3
    clear f3
    generalize w2.alloc (.cells #[.int .i64 va, .int .i64 1] 23) = w3 at *
    have c10 := p1.c0
    have c11 := p1.c1
    go_wp2_with fail
    go_at_call 11; refine (CV.out _).mono ?_; rintro e1 w4 ⟨rfl, f4⟩
    clear c10 c11
    have p2' := p0.on f4
    have p1' := p1.on f4
    have f04 := f0.trans f4
    clear p0 f0 p1 f4
    have c10 := p1'.c0
    have c11 := p1'.c1
    have c20 := p2'.c0
    have c21 := p2'.c1
    have z20 := p2'.f0 0
    have z21 := p2'.f0 1
    go_wp2
    try simp only [Exit.inBlock, Exit.then]
    exact fr_ret_put rfl rfl rfl p2' f04 (by omega)
  cases hB : parB B
  · obtain ⟨r1, r2, r3⟩ := K3.out hF hB
    rw [r1, r2, r3]
    rw [hA] at CA
    rw [hF] at CC
    rw [hB] at CB
    clear K1 K2 K3 K4 K5 O1 r1 r2 r3 hA hF hB
    go_enter Tryd.func24, Tryd.ntmps24
    go_wp2_with fail
    go_at_call 50; refine (CC.out _).mono ?_; rintro e1 w1 ⟨rfl, f1⟩
    replace p0 := p0.on f1
    replace f0 := f0.trans f1
    go_wp2_with fail
    go_at_call 51; refine (CA.out _ (GG.out.on f0)).mono ?_; rintro e1 w2 ⟨rfl, f2⟩
    replace p0 := p0.on f2
    replace f0 := f0.trans f2
    clear f1 f2
    go_wp2_with fail
    go_at_call 51; refine (CB.out _ (GG.out.on f0)).mono ?_; rintro e1 w3 ⟨rfl, f3⟩
    replace p0 := p0.on f3
    replace f0 := f0.trans f3
    clear f3
    go_upto_region 7 with fail
    have f4 := (Fur.refl w3).alloc (.cells #[.int .i64 va, .int .i64 vb] 23)
    have p2' := p0.on f4
    have f04 := f0.trans f4
    generalize w3.alloc (.cells #[.int .i64 va, .int .i64 vb] 23) = w4 at *
    clear p0 f0
    have c20 := p2'.c0
    have c21 := p2'.c1
    have z20 := p2'.f0 0
    have z21 := p2'.f0 1
    go_wp2
    try simp only [Exit.inBlock, Exit.then]
    exact fr_ret_put rfl rfl rfl p2' f04 (by omega)
  have CV := Lib.hid (fun w => nf_valid va vb w)
  cases hO : okF va vb
  · obtain ⟨r1, r2, r3⟩ := K4.out hF (.inl hO)
    rw [r1, r2, r3]
    rw [hA] at CA
    rw [hF] at CC
    rw [hB] at CB
    rw [hO] at CV
    clear K1 K2 K3 K4 K5 O1 r1 r2 r3 hA hF hB hO
    go_enter Tryd.func24, Tryd.ntmps24
    go_wp2_with fail
    go_at_call 50; refine (CC.out _).mono ?_; rintro e1 w1 ⟨rfl, f1⟩
    replace p0 := p0.on f1
    replace f0 := f0.trans f1
    go_wp2_with fail
    go_at_call 51; refine (CA.out _ (GG.out.on f0)).mono ?_; rintro e1 w2 ⟨rfl, f2⟩
    replace p0 := p0.on f2
    replace f0 := f0.trans f2
    clear f1 f2
    go_wp2_with fail
    go_at_call 51; refine (CB.out _ (GG.out.on f0)).mono ?_; rintro e1 w3 ⟨rfl, f3⟩
    replace p0 := p0.on f3
    replace f0 := f0.trans f3
    clear f3
    go_upto_region 7 with fail
    obtain ⟨p1, f4⟩ := box1 w3 va vb
    replace p0 := p0.on f4
    replace f0 := f0.trans f4
    clear f4
    generalize w3.alloc (.cells #[.int .i64 va, .int .i64 vb] 23) = w4 at *
    have c10 := p1.c0
    have c11 := p1.c1
    go_wp2_with fail
    go_at_call 11; refine (CV.out _).mono ?_; rintro e1 w5 ⟨rfl, f5⟩
    have p2' := p0.on f5
    have f04 := f0.trans f5
    clear p0 f0 p1 f5 c10 c11
    have c20 := p2'.c0
    have c21 := p2'.c1
    have z20 := p2'.f0 0
    have z21 := p2'.f0 1
    go_wp2
    try simp only [Exit.inBlock, Exit.then]
    exact fr_ret_put rfl rfl rfl p2' f04 (by omega)
  by_cases h1 : vb = 1
  · obtain ⟨r1, r2, r3⟩ := K4.out hF (.inr h1)
    rw [r1, r2, r3]
    rw [hA] at CA
    rw [hF] at CC
    rw [hB] at CB
    rw [hO] at CV
    clear K1 K2 K3 K4 K5 O1 r1 r2 r3 hA hF hB hO
    subst h1
    go_enter Tryd.func24, Tryd.ntmps24
    go_wp2_with fail
    go_at_call 50; refine (CC.out _).mono ?_; rintro e1 w1 ⟨rfl, f1⟩
    replace p0 := p0.on f1
    replace f0 := f0.trans f1
    go_wp2_with fail
    go_at_call 51; refine (CA.out _ (GG.out.on f0)).mono ?_; rintro e1 w2 ⟨rfl, f2⟩
    replace p0 := p0.on f2
    replace f0 := f0.trans f2
    clear f1 f2
    go_wp2_with fail
    go_at_call 51; refine (CB.out _ (GG.out.on f0)).mono ?_; rintro e1 w3 ⟨rfl, f3⟩
    replace p0 := p0.on f3
    replace f0 := f0.trans f3
    clear f3
    go_upto_region 7 with fail
    obtain ⟨p1, f4⟩ := box1 w3 va 1
    replace p0 := p0.on f4
    replace f0 := f0.trans f4
    clear f4
    generalize w3.alloc (.cells #[.int .i64 va, .int .i64 1] 23) = w4 at *
    have c10 := p1.c0
    have c11 := p1.c1
    go_wp2_with fail
    go_at_call 11; refine (CV.out _).mono ?_; rintro e1 w5 ⟨rfl, f5⟩
    have p2' := p0.on f5
    have f04 := f0.trans f5
    clear p0 f0 p1 f5 c10 c11
    have c20 := p2'.c0
    have c21 := p2'.c1
    have z20 := p2'.f0 0
    have z21 := p2'.f0 1
    go_wp2
    try simp only [Exit.inBlock, Exit.then]
    exact fr_ret_put rfl rfl rfl p2' f04 (by omega)
  · obtain ⟨r1, r2, r3⟩ := K5.out hA hF hB hO h1
    rw [r1, r2, r3]
    rw [hA] at CA
    rw [hF] at CC
    rw [hB] at CB
    rw [hO] at CV
    clear K1 K2 K3 K4 K5 O1 r1 r2 r3 hA hF hB hO
    have h1b : (vb == 1) = false := by rw [beq_eq_false_iff_ne]; exact h1
    clear h1
    go_enter Tryd.func24, Tryd.ntmps24
    go_wp2_with fail
    go_at_call 50; refine (CC.out _).mono ?_; rintro e1 w1 ⟨rfl, f1⟩
    replace p0 := p0.on f1
    replace f0 := f0.trans f1
    go_wp2_with fail
    go_at_call 51; refine (CA.out _ (GG.out.on f0)).mono ?_; rintro e1 w2 ⟨rfl, f2⟩
    replace p0 := p0.on f2
    replace f0 := f0.trans f2
    clear f1 f2
    go_wp2_with fail
    go_at_call 51; refine (CB.out _ (GG.out.on f0)).mono ?_; rintro e1 w3 ⟨rfl, f3⟩
    replace p0 := p0.on f3
    replace f0 := f0.trans f3
    clear f3
    go_upto_region 7 with fail
    obtain ⟨p1, f4⟩ := box1 w3 va vb
    replace p0 := p0.on f4
    replace f0 := f0.trans f4
    clear f4
    generalize w3.alloc (.cells #[.int .i64 va, .int .i64 vb] 23) = w4 at *
    have c10 := p1.c0
    have c11 := p1.c1
    go_wp2_with fail
    go_at_call 11; refine (CV.out _).mono ?_; rintro e1 w5 ⟨rfl, f5⟩
    clear c10 c11
    have p2' := p0.on f5
    have p1' := p1.on f5
    have f04 := f0.trans f5
    clear p0 f0 p1 f5
    have c10 := p1'.c0
    have c11 := p1'.c1
    have c20 := p2'.c0
    have c21 := p2'.c1
    have z20 := p2'.f0 0
    have z21 := p2'.f0 1
    go_wp2
    try simp only [Exit.inBlock, Exit.then]
    exact fr_ret_put rfl rfl rfl p2' f04 (by omega)
end Go.Proofs.YtdkmfhlmeildmaaDoor
