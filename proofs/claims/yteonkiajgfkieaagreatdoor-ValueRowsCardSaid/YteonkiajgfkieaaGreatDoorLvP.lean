/-
  The statements of layer 4: the helper alive() gives true: the chapter's examples hold by the contracts of package value.
-/
import Derived.Test.YteonkiajgfkieaaGreatDoorM26
import Derived.Deep.Cut
namespace Go.Proofs.YteonkiajgfkieaaGreatDoor
open Go.RowKit

theorem keepF {w w' : World} {p : Addr} {v : Value} (hf : Fuw w w') (h : w.cell? p = some v) : w'.cell? p = some v := cellOnw hf h
set_option maxHeartbeats 16000000 in
set_option maxRecDepth 100000 in
theorem alive_any (w : World) (G : Good w) : Calls Tryz.prog 5 #[] w (RwB w true) := by
  have GG := Lib.hid G
  clear G
  go_enter Tryz.func5, Tryz.ntmps5
  have f0 : Fur w w := Fur.refl w
  go_wp2_with fail
  go_at_call 14; refine (lrat_any _ _ _).mono ?_; rintro e1 w1 ⟨rfl, g⟩
  rw [show ratK 2 = 3 from rfl, show ratD 2 = 2 from rfl]
  replace f0 := f0.trans g
  clear g
  go_wp2_with fail
  obtain ⟨p1, g⟩ := bxm w1 3 1 2 ⟨#[]⟩ [] [] none 0 0 rfl rfl
  replace f0 := f0.trans g
  clear g
  generalize w1.alloc (.cells #[.int .i64 3, .int .i64 1, .int .i64 2, .string ⟨#[]⟩, .slice none 0 0] 34) = v1 at *
  go_wp2_with fail
  go_at_call 14; refine (lrat_any _ _ _).mono ?_; rintro e2 w2 ⟨rfl, g⟩
  rw [show ratK 3 = 3 from rfl, show ratD 3 = 3 from rfl]
  replace p1 := p1.on g
  replace f0 := f0.trans g
  clear g
  go_wp2_with fail
  obtain ⟨p2, g⟩ := bxm w2 3 1 3 ⟨#[]⟩ [] [] none 0 0 rfl rfl
  replace p1 := p1.on g
  replace f0 := f0.trans g
  clear g
  generalize w2.alloc (.cells #[.int .i64 3, .int .i64 1, .int .i64 3, .string ⟨#[]⟩, .slice none 0 0] 34) = v2 at *
  go_wp2_with fail
  go_at_call 16; refine (lint_any _ _).mono ?_; rintro e30 w30 ⟨rfl, g⟩
  replace p1 := p1.on g
  replace p2 := p2.on g
  replace f0 := f0.trans g
  clear g
  go_wp2_with fail
  go_at_call 17; refine (lnull_any _).mono ?_; rintro e31 w31 ⟨rfl, g⟩
  replace p1 := p1.on g
  replace p2 := p2.on g
  replace f0 := f0.trans g
  clear g
  go_wp2_with fail
  obtain ⟨s3, g⟩ := sl2 w31 2 1 0 0 0 0 ⟨#[]⟩ ⟨#[]⟩ [] [] rfl rfl (by decide) (by decide)
  replace p1 := p1.on g
  replace p2 := p2.on g
  replace f0 := f0.trans g
  clear g
  generalize w31.alloc (.cells #[.int .i64 2, .int .i64 1, .int .i64 0, .string ⟨#[]⟩, .slice none 0 0, .int .i64 0, .int .i64 0, .int .i64 0, .string ⟨#[]⟩, .slice none 0 0] 34) = u3 at *
  go_at_call 15; refine (llist_any _ _ _ _).mono ?_; rintro e3 w3 ⟨rfl, g⟩
  replace p1 := p1.on g
  replace p2 := p2.on g
  replace s3 := s3.on g
  replace f0 := f0.trans g
  clear g
  go_wp2_with fail
  obtain ⟨p3, g⟩ := bxm w3 8 0 0 ⟨#[]⟩ [] [.mk 2 1 0 [] [], .mk 0 0 0 [] []] (some ⟨w31.heap.size, 0, none⟩) 2 2 rfl rfl
  replace p1 := p1.on g
  replace p2 := p2.on g
  replace s3 := s3.on g
  replace f0 := f0.trans g
  clear g
  generalize w3.alloc (.cells #[.int .i64 8, .int .i64 0, .int .i64 0, .string ⟨#[]⟩, .slice (some ⟨w31.heap.size, 0, none⟩) 2 2] 34) = v3 at *
  go_wp2_with fail
  go_at_call 16; refine (lint_any _ _).mono ?_; rintro e40 w40 ⟨rfl, g⟩
  replace p1 := p1.on g
  replace p2 := p2.on g
  replace p3 := p3.on g
  replace s3 := s3.on g
  replace f0 := f0.trans g
  clear g
  go_wp2_with fail
  go_at_call 16; refine (lint_any _ _).mono ?_; rintro e41 w41 ⟨rfl, g⟩
  replace p1 := p1.on g
  replace p2 := p2.on g
  replace p3 := p3.on g
  replace s3 := s3.on g
  replace f0 := f0.trans g
  clear g
  go_wp2_with fail
  obtain ⟨s4, g⟩ := sl2 w41 2 1 0 2 2 0 ⟨#[]⟩ ⟨#[]⟩ [] [] rfl rfl (by decide) (by decide)
  replace p1 := p1.on g
  replace p2 := p2.on g
  replace p3 := p3.on g
  replace s3 := s3.on g
  replace f0 := f0.trans g
  clear g
  generalize w41.alloc (.cells #[.int .i64 2, .int .i64 1, .int .i64 0, .string ⟨#[]⟩, .slice none 0 0, .int .i64 2, .int .i64 2, .int .i64 0, .string ⟨#[]⟩, .slice none 0 0] 34) = u4 at *
  go_at_call 15; refine (llist_any _ _ _ _).mono ?_; rintro e4 w4 ⟨rfl, g⟩
  replace p1 := p1.on g
  replace p2 := p2.on g
  replace p3 := p3.on g
  replace s3 := s3.on g
  replace s4 := s4.on g
  replace f0 := f0.trans g
  clear g
  go_wp2_with fail
  obtain ⟨p4, g⟩ := bxm w4 8 0 0 ⟨#[]⟩ [] [.mk 2 1 0 [] [], .mk 2 2 0 [] []] (some ⟨w41.heap.size, 0, none⟩) 2 2 rfl rfl
  replace p1 := p1.on g
  replace p2 := p2.on g
  replace p3 := p3.on g
  replace s3 := s3.on g
  replace s4 := s4.on g
  replace f0 := f0.trans g
  clear g
  generalize w4.alloc (.cells #[.int .i64 8, .int .i64 0, .int .i64 0, .string ⟨#[]⟩, .slice (some ⟨w41.heap.size, 0, none⟩) 2 2] 34) = v4 at *
  go_wp2_with fail
  go_at_call 16; refine (lint_any _ _).mono ?_; rintro e50 w50 ⟨rfl, g⟩
  replace p1 := p1.on g
  replace p2 := p2.on g
  replace p3 := p3.on g
  replace p4 := p4.on g
  replace s3 := s3.on g
  replace s4 := s4.on g
  replace f0 := f0.trans g
  clear g
  go_wp2_with fail
  go_at_call 17; refine (lnull_any _).mono ?_; rintro e51 w51 ⟨rfl, g⟩
  replace p1 := p1.on g
  replace p2 := p2.on g
  replace p3 := p3.on g
  replace p4 := p4.on g
  replace s3 := s3.on g
  replace s4 := s4.on g
  replace f0 := f0.trans g
  clear g
  go_wp2_with fail
  obtain ⟨s5, g⟩ := sl2 w51 2 2 0 0 0 0 ⟨#[]⟩ ⟨#[]⟩ [] [] rfl rfl (by decide) (by decide)
  replace p1 := p1.on g
  replace p2 := p2.on g
  replace p3 := p3.on g
  replace p4 := p4.on g
  replace s3 := s3.on g
  replace s4 := s4.on g
  replace f0 := f0.trans g
  clear g
  generalize w51.alloc (.cells #[.int .i64 2, .int .i64 2, .int .i64 0, .string ⟨#[]⟩, .slice none 0 0, .int .i64 0, .int .i64 0, .int .i64 0, .string ⟨#[]⟩, .slice none 0 0] 34) = u5 at *
  go_at_call 15; refine (llist_any _ _ _ _).mono ?_; rintro e5 w5 ⟨rfl, g⟩
  replace p1 := p1.on g
  replace p2 := p2.on g
  replace p3 := p3.on g
  replace p4 := p4.on g
  replace s3 := s3.on g
  replace s4 := s4.on g
  replace s5 := s5.on g
  replace f0 := f0.trans g
  clear g
  go_wp2_with fail
  obtain ⟨p5, g⟩ := bxm w5 8 0 0 ⟨#[]⟩ [] [.mk 2 2 0 [] [], .mk 0 0 0 [] []] (some ⟨w51.heap.size, 0, none⟩) 2 2 rfl rfl
  replace p1 := p1.on g
  replace p2 := p2.on g
  replace p3 := p3.on g
  replace p4 := p4.on g
  replace s3 := s3.on g
  replace s4 := s4.on g
  replace s5 := s5.on g
  replace f0 := f0.trans g
  clear g
  generalize w5.alloc (.cells #[.int .i64 8, .int .i64 0, .int .i64 0, .string ⟨#[]⟩, .slice (some ⟨w51.heap.size, 0, none⟩) 2 2] 34) = v5 at *
  go_wp2_with fail
  go_at_call 18; refine (lstr_any _ _).mono ?_; rintro e60 w60 ⟨rfl, g⟩
  replace p1 := p1.on g
  replace p2 := p2.on g
  replace p3 := p3.on g
  replace p4 := p4.on g
  replace p5 := p5.on g
  replace s3 := s3.on g
  replace s4 := s4.on g
  replace s5 := s5.on g
  replace f0 := f0.trans g
  clear g
  go_wp2_with fail
  go_at_call 19; refine (lnode_any _ _).mono ?_; rintro e61 w61 ⟨rfl, g⟩
  replace p1 := p1.on g
  replace p2 := p2.on g
  replace p3 := p3.on g
  replace p4 := p4.on g
  replace p5 := p5.on g
  replace s3 := s3.on g
  replace s4 := s4.on g
  replace s5 := s5.on g
  replace f0 := f0.trans g
  clear g
  go_wp2_with fail
  obtain ⟨s6, g⟩ := sl2 w61 4 0 0 5 3 0 ⟨#[105, 116, 39, 115]⟩ ⟨#[]⟩ [105, 116, 39, 115] [] rfl rfl (by decide) (by decide)
  replace p1 := p1.on g
  replace p2 := p2.on g
  replace p3 := p3.on g
  replace p4 := p4.on g
  replace p5 := p5.on g
  replace s3 := s3.on g
  replace s4 := s4.on g
  replace s5 := s5.on g
  replace f0 := f0.trans g
  clear g
  generalize w61.alloc (.cells #[.int .i64 4, .int .i64 0, .int .i64 0, .string ⟨#[105, 116, 39, 115]⟩, .slice none 0 0, .int .i64 5, .int .i64 3, .int .i64 0, .string ⟨#[]⟩, .slice none 0 0] 34) = u6 at *
  go_at_call 15; refine (llist_any _ _ _ _).mono ?_; rintro e6 w6 ⟨rfl, g⟩
  replace p1 := p1.on g
  replace p2 := p2.on g
  replace p3 := p3.on g
  replace p4 := p4.on g
  replace p5 := p5.on g
  replace s3 := s3.on g
  replace s4 := s4.on g
  replace s5 := s5.on g
  replace s6 := s6.on g
  replace f0 := f0.trans g
  clear g
  go_wp2_with fail
  obtain ⟨p6, g⟩ := bxm w6 8 0 0 ⟨#[]⟩ [] [.mk 4 0 0 [105, 116, 39, 115] [], .mk 5 3 0 [] []] (some ⟨w61.heap.size, 0, none⟩) 2 2 rfl rfl
  replace p1 := p1.on g
  replace p2 := p2.on g
  replace p3 := p3.on g
  replace p4 := p4.on g
  replace p5 := p5.on g
  replace s3 := s3.on g
  replace s4 := s4.on g
  replace s5 := s5.on g
  replace s6 := s6.on g
  replace f0 := f0.trans g
  clear g
  generalize w6.alloc (.cells #[.int .i64 8, .int .i64 0, .int .i64 0, .string ⟨#[]⟩, .slice (some ⟨w61.heap.size, 0, none⟩) 2 2] 34) = v6 at *
  have c10 : v6.cell? ⟨w1.heap.size, 0, none⟩ = some (.int .i64 3) := p1.c0
  have c11 : v6.cell? ⟨w1.heap.size, 1, none⟩ = some (.int .i64 1) := p1.c1
  have c12 : v6.cell? ⟨w1.heap.size, 2, none⟩ = some (.int .i64 2) := p1.c2
  have c13 : v6.cell? ⟨w1.heap.size, 3, none⟩ = some (.string ⟨#[]⟩) := p1.c3
  have c14 : v6.cell? ⟨w1.heap.size, 4, none⟩ = some (.slice none 0 0) := p1.c4
  have c20 : v6.cell? ⟨w2.heap.size, 0, none⟩ = some (.int .i64 3) := p2.c0
  have c21 : v6.cell? ⟨w2.heap.size, 1, none⟩ = some (.int .i64 1) := p2.c1
  have c22 : v6.cell? ⟨w2.heap.size, 2, none⟩ = some (.int .i64 3) := p2.c2
  have c23 : v6.cell? ⟨w2.heap.size, 3, none⟩ = some (.string ⟨#[]⟩) := p2.c3
  have c24 : v6.cell? ⟨w2.heap.size, 4, none⟩ = some (.slice none 0 0) := p2.c4
  have c30 : v6.cell? ⟨w3.heap.size, 0, none⟩ = some (.int .i64 8) := p3.c0
  have c31 : v6.cell? ⟨w3.heap.size, 1, none⟩ = some (.int .i64 0) := p3.c1
  have c32 : v6.cell? ⟨w3.heap.size, 2, none⟩ = some (.int .i64 0) := p3.c2
  have c33 : v6.cell? ⟨w3.heap.size, 3, none⟩ = some (.string ⟨#[]⟩) := p3.c3
  have c34 : v6.cell? ⟨w3.heap.size, 4, none⟩ = some (.slice (some ⟨w31.heap.size, 0, none⟩) 2 2) := p3.c4
  have c40 : v6.cell? ⟨w4.heap.size, 0, none⟩ = some (.int .i64 8) := p4.c0
  have c41 : v6.cell? ⟨w4.heap.size, 1, none⟩ = some (.int .i64 0) := p4.c1
  have c42 : v6.cell? ⟨w4.heap.size, 2, none⟩ = some (.int .i64 0) := p4.c2
  have c43 : v6.cell? ⟨w4.heap.size, 3, none⟩ = some (.string ⟨#[]⟩) := p4.c3
  have c44 : v6.cell? ⟨w4.heap.size, 4, none⟩ = some (.slice (some ⟨w41.heap.size, 0, none⟩) 2 2) := p4.c4
  have c50 : v6.cell? ⟨w5.heap.size, 0, none⟩ = some (.int .i64 8) := p5.c0
  have c51 : v6.cell? ⟨w5.heap.size, 1, none⟩ = some (.int .i64 0) := p5.c1
  have c52 : v6.cell? ⟨w5.heap.size, 2, none⟩ = some (.int .i64 0) := p5.c2
  have c53 : v6.cell? ⟨w5.heap.size, 3, none⟩ = some (.string ⟨#[]⟩) := p5.c3
  have c54 : v6.cell? ⟨w5.heap.size, 4, none⟩ = some (.slice (some ⟨w51.heap.size, 0, none⟩) 2 2) := p5.c4
  have c60 : v6.cell? ⟨w6.heap.size, 0, none⟩ = some (.int .i64 8) := p6.c0
  have c61 : v6.cell? ⟨w6.heap.size, 1, none⟩ = some (.int .i64 0) := p6.c1
  have c62 : v6.cell? ⟨w6.heap.size, 2, none⟩ = some (.int .i64 0) := p6.c2
  have c63 : v6.cell? ⟨w6.heap.size, 3, none⟩ = some (.string ⟨#[]⟩) := p6.c3
  have c64 : v6.cell? ⟨w6.heap.size, 4, none⟩ = some (.slice (some ⟨w61.heap.size, 0, none⟩) 2 2) := p6.c4
  clear p1 p2 p3 p4 p5 p6
  have ff : Fuw v6 v6.drew := Fuw.drew (Fuw.refl v6)
  have S3 := Lib.hid s3; have S4 := Lib.hid s4; have S5 := Lib.hid s5; have S6 := Lib.hid s6
  clear s3 s4 s5 s6
  have FF := Lib.hid f0.w
  clear f0
  go_region_held3 (fun w' => Fuw v6 w' ∧ w'.cell? ⟨w1.heap.size, 0, none⟩ = some (.int .i64 3) ∧ w'.cell? ⟨w1.heap.size, 1, none⟩ = some (.int .i64 1) ∧ w'.cell? ⟨w1.heap.size, 2, none⟩ = some (.int .i64 2) ∧ w'.cell? ⟨w1.heap.size, 3, none⟩ = some (.string ⟨#[]⟩) ∧ w'.cell? ⟨w1.heap.size, 4, none⟩ = some (.slice none 0 0) ∧ w'.cell? ⟨w2.heap.size, 0, none⟩ = some (.int .i64 3) ∧ w'.cell? ⟨w2.heap.size, 1, none⟩ = some (.int .i64 1) ∧ w'.cell? ⟨w2.heap.size, 2, none⟩ = some (.int .i64 3) ∧ w'.cell? ⟨w2.heap.size, 3, none⟩ = some (.string ⟨#[]⟩) ∧ w'.cell? ⟨w2.heap.size, 4, none⟩ = some (.slice none 0 0) ∧ w'.cell? ⟨w3.heap.size, 0, none⟩ = some (.int .i64 8) ∧ w'.cell? ⟨w3.heap.size, 1, none⟩ = some (.int .i64 0) ∧ w'.cell? ⟨w3.heap.size, 2, none⟩ = some (.int .i64 0) ∧ w'.cell? ⟨w3.heap.size, 3, none⟩ = some (.string ⟨#[]⟩) ∧ w'.cell? ⟨w3.heap.size, 4, none⟩ = some (.slice (some ⟨w31.heap.size, 0, none⟩) 2 2) ∧ w'.cell? ⟨w4.heap.size, 0, none⟩ = some (.int .i64 8) ∧ w'.cell? ⟨w4.heap.size, 1, none⟩ = some (.int .i64 0) ∧ w'.cell? ⟨w4.heap.size, 2, none⟩ = some (.int .i64 0) ∧ w'.cell? ⟨w4.heap.size, 3, none⟩ = some (.string ⟨#[]⟩) ∧ w'.cell? ⟨w4.heap.size, 4, none⟩ = some (.slice (some ⟨w41.heap.size, 0, none⟩) 2 2) ∧ w'.cell? ⟨w5.heap.size, 0, none⟩ = some (.int .i64 8) ∧ w'.cell? ⟨w5.heap.size, 1, none⟩ = some (.int .i64 0) ∧ w'.cell? ⟨w5.heap.size, 2, none⟩ = some (.int .i64 0) ∧ w'.cell? ⟨w5.heap.size, 3, none⟩ = some (.string ⟨#[]⟩) ∧ w'.cell? ⟨w5.heap.size, 4, none⟩ = some (.slice (some ⟨w51.heap.size, 0, none⟩) 2 2) ∧ w'.cell? ⟨w6.heap.size, 0, none⟩ = some (.int .i64 8) ∧ w'.cell? ⟨w6.heap.size, 1, none⟩ = some (.int .i64 0) ∧ w'.cell? ⟨w6.heap.size, 2, none⟩ = some (.int .i64 0) ∧ w'.cell? ⟨w6.heap.size, 3, none⟩ = some (.string ⟨#[]⟩) ∧ w'.cell? ⟨w6.heap.size, 4, none⟩ = some (.slice (some ⟨w61.heap.size, 0, none⟩) 2 2))
    (first
      | exact ⟨ff, keepF ff c10, keepF ff c11, keepF ff c12, keepF ff c13, keepF ff c14, keepF ff c20, keepF ff c21, keepF ff c22, keepF ff c23, keepF ff c24, keepF ff c30, keepF ff c31, keepF ff c32, keepF ff c33, keepF ff c34, keepF ff c40, keepF ff c41, keepF ff c42, keepF ff c43, keepF ff c44, keepF ff c50, keepF ff c51, keepF ff c52, keepF ff c53, keepF ff c54, keepF ff c60, keepF ff c61, keepF ff c62, keepF ff c63, keepF ff c64⟩)
    (first
      | (go_at_call 20; first
          | (refine (leq_lit (s := ([] : List UInt8)) (s' := ([] : List UInt8)) (l := ([.mk 2 1 0 [] [], .mk 0 0 0 [] []] : List Vl)) (l' := ([.mk 2 1 0 [] [], .mk 2 2 0 [] []] : List Vl)) (R := 1) (q := [8, 0, 0, 8, 0, 0]) ?_ ?_ ?_ ?_ ?_ ?_ ?_ ?_ ?_ ?_).mono ?_; exact rfl; exact S3.out.onw ff; exact S4.out.onw ff; exact rfl; exact rfl; exact rfl; exact rfl; decide; decide; exact al_1; rintro e9 w9 ⟨rfl, f9⟩; replace ff := ff.trans f9)
          | (refine (leq_lit (s := ([] : List UInt8)) (s' := ([] : List UInt8)) (l := ([.mk 2 1 0 [] [], .mk 0 0 0 [] []] : List Vl)) (l' := ([.mk 2 2 0 [] [], .mk 0 0 0 [] []] : List Vl)) (R := 0) (q := [8, 0, 0, 8, 0, 0]) ?_ ?_ ?_ ?_ ?_ ?_ ?_ ?_ ?_ ?_).mono ?_; exact rfl; exact S3.out.onw ff; exact S5.out.onw ff; exact rfl; exact rfl; exact rfl; exact rfl; decide; decide; exact al_2; rintro e9 w9 ⟨rfl, f9⟩; replace ff := ff.trans f9)
          | (refine (leq_lit (s := ([] : List UInt8)) (s' := ([97] : List UInt8)) (l := ([] : List Vl)) (l' := ([] : List Vl)) (R := 0) (q := [3, 1, 2, 4, 0, 0]) ?_ ?_ ?_ ?_ ?_ ?_ ?_ ?_ ?_ ?_).mono ?_; exact rfl; exact SlV.nil0 _; exact SlV.nil0 _; exact rfl; exact rfl; exact rfl; exact rfl; decide; decide; exact al_3; rintro e9 w9 ⟨rfl, f9⟩; replace ff := ff.trans f9))
      | (go_at_call 21; first
          | (refine (lless_lit (s := ([] : List UInt8)) (s' := ([] : List UInt8)) (l := ([] : List Vl)) (l' := ([] : List Vl)) (R := 2) (q := [3, 1, 3, 3, 1, 2]) ?_ ?_ ?_ ?_ ?_ ?_ ?_ ?_ ?_ ?_).mono ?_; exact rfl; exact SlV.nil0 _; exact SlV.nil0 _; exact rfl; exact rfl; exact rfl; exact rfl; decide; decide; exact al_4; rintro e9 w9 ⟨rfl, f9⟩; replace ff := ff.trans f9)
          | (refine (lless_lit (s := ([] : List UInt8)) (s' := ([97] : List UInt8)) (l := ([] : List Vl)) (l' := ([] : List Vl)) (R := 1) (q := [2, 1, 0, 4, 0, 0]) ?_ ?_ ?_ ?_ ?_ ?_ ?_ ?_ ?_ ?_).mono ?_; exact rfl; exact SlV.nil0 _; exact SlV.nil0 _; exact rfl; exact rfl; exact rfl; exact rfl; decide; decide; exact al_5; rintro e9 w9 ⟨rfl, f9⟩; replace ff := ff.trans f9))
      | (go_at_call 22; first
          | (refine (lord_lit (s := ([] : List UInt8)) (s' := ([97] : List UInt8)) (l := ([] : List Vl)) (l' := ([] : List Vl)) (R := (-1)) (q := [2, 5, 0, 4, 0, 0]) ?_ ?_ ?_ ?_ ?_ ?_ ?_ ?_ ?_ ?_).mono ?_; exact rfl; exact SlV.nil0 _; exact SlV.nil0 _; exact rfl; exact rfl; exact rfl; exact rfl; decide; decide; exact al_6; rintro e9 w9 ⟨rfl, f9⟩; replace ff := ff.trans f9)
          | (refine (lord_lit (s := ([] : List UInt8)) (s' := ([] : List UInt8)) (l := ([] : List Vl)) (l' := ([] : List Vl)) (R := (-1)) (q := [3, 1, 2, 2, 1, 0]) ?_ ?_ ?_ ?_ ?_ ?_ ?_ ?_ ?_ ?_).mono ?_; exact rfl; exact SlV.nil0 _; exact SlV.nil0 _; exact rfl; exact rfl; exact rfl; exact rfl; decide; decide; exact al_8; rintro e9 w9 ⟨rfl, f9⟩; replace ff := ff.trans f9)
          | (refine (lord_lit (s := ([] : List UInt8)) (s' := ([] : List UInt8)) (l := ([] : List Vl)) (l' := ([] : List Vl)) (R := (-1)) (q := [0, 0, 0, 1, 0, 0]) ?_ ?_ ?_ ?_ ?_ ?_ ?_ ?_ ?_ ?_).mono ?_; exact rfl; exact SlV.nil0 _; exact SlV.nil0 _; exact rfl; exact rfl; exact rfl; exact rfl; decide; decide; exact al_9; rintro e9 w9 ⟨rfl, f9⟩; replace ff := ff.trans f9))
      | (go_at_call 23; refine (ltext_lit (s := ([] : List UInt8)) (l := ([.mk 4 0 0 [105, 116, 39, 115] [], .mk 5 3 0 [] []] : List Vl)) (R := [91, 39, 105, 116, 39, 39, 115, 39, 44, 32, 35, 51, 93]) (RB := ⟨#[91, 39, 105, 116, 39, 39, 115, 39, 44, 32, 35, 51, 93]⟩) (q := [8, 0, 0]) ?_ ?_ ?_ ?_ ?_ ?_ ?_ ?_ ?_).mono ?_; exact rfl; exact S6.out.onw ff; exact GG.out.onw (FF.out.trans ff); exact rfl; exact rfl; decide; exact al_7; decide; exact rfl; rintro e9 w9 ⟨rfl, f9⟩; replace ff := ff.trans f9)
      | (go_at_call 25; refine (lvalid_lit (s := ([] : List UInt8)) (l := ([.mk 4 0 0 [105, 116, 39, 115] [], .mk 5 3 0 [] []] : List Vl)) (R := true) (q := [8, 0, 0]) ?_ ?_ ?_ ?_ ?_ ?_).mono ?_; exact rfl; exact S6.out.onw ff; exact rfl; exact rfl; decide; exact al_10; rintro e9 w9 ⟨rfl, f9⟩; replace ff := ff.trans f9)
      | (go_at_call 16; refine (lint_any _ _).mono ?_; rintro e9 w9 ⟨rfl, f9⟩; replace ff := ff.trans f9.b)
      | (go_at_call 18; refine (lstr_any _ _).mono ?_; rintro e9 w9 ⟨rfl, f9⟩; replace ff := ff.trans f9.b)
      | (go_at_call 17; refine (lnull_any _).mono ?_; rintro e9 w9 ⟨rfl, f9⟩; replace ff := ff.trans f9.b)
      | (go_at_call 24; refine (lbool_any _ _).mono ?_; rintro e9 w9 ⟨rfl, f9⟩; replace ff := ff.trans f9.b))
  go_wp2
  go_ret
  exact ⟨rfl, FF.out.trans ff⟩
end Go.Proofs.YteonkiajgfkieaaGreatDoor
