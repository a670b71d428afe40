/-
  The chapter's examples of schemas: plain mathematics. No function is walked here.
-/
import Derived.Test.YtadnaakbhgacgaaDoorScP
namespace Go.Proofs.YtadnaakbhgacgaaDoor
open Go.RowKit
open Go.Lib (itoa join)

def uR : Rl := ⟨1, 0, [65], [107], [], []⟩
def xR : Rl := ⟨2, 0, [65], [107], [], []⟩
def nR : Rl := ⟨6, 0, [75, 78, 79, 87, 83], [], [80, 101, 114, 115, 111, 110], []⟩
def pR : Rl := ⟨6, 0, [84], [], [], [66]⟩
def kR : Rl := ⟨6, 0, [], [107], [], []⟩
theorem uR_in : RIn uR := ⟨⟨by decide, by decide⟩, i0, by decide, by decide, by decide, by decide⟩
theorem xR_in : RIn xR := ⟨⟨by decide, by decide⟩, i0, by decide, by decide, by decide, by decide⟩
theorem nR_in : RIn nR := ⟨⟨by decide, by decide⟩, i0, by decide, by decide, by decide, by decide⟩
theorem pR_in : RIn pR := ⟨⟨by decide, by decide⟩, i0, by decide, by decide, by decide, by decide⟩
theorem kR_in : RIn kR := ⟨⟨by decide, by decide⟩, i0, by decide, by decide, by decide, by decide⟩
theorem ex1 : addE [] xR = 0 ∧ addR [] xR = [xR] := ⟨by kernel_rfl, by kernel_rfl⟩
theorem ex2 : addE [xR] uR = 0 ∧ addR [xR] uR = [uR, xR] := ⟨by kernel_rfl, by kernel_rfl⟩
theorem ex3 : addE [uR, xR] uR = 7 ∧ addR [uR, xR] uR = [] := ⟨by kernel_rfl, by kernel_rfl⟩
theorem ex4 : drpE [uR, xR] xR = 0 ∧ drpR [uR, xR] xR = [uR] := ⟨by kernel_rfl, by kernel_rfl⟩
theorem ex5 : txtR nR = [101, 110, 100, 115, 32, 75, 78, 79, 87, 83, 32, 80, 101, 114, 115, 111, 110, 32, 42] := by kernel_rfl
theorem ex6 : chkR nR = 0 ∧ chkR kR = 1 ∧ chkR pR = 0 := ⟨by kernel_rfl, by kernel_rfl, by kernel_rfl⟩
theorem ex7 : valS [uR, xR] = true ∧ valS [xR, uR] = false := ⟨by kernel_rfl, by kernel_rfl⟩
theorem ex8 : ordR uR xR = -1 ∧ fltR 6 = 16 := ⟨by kernel_rfl, by kernel_rfl⟩
theorem ex9 : parR [101, 110, 100, 115, 32, 84, 32, 42, 32, 66] = some pR := by
  have e : txtR pR = [101, 110, 100, 115, 32, 84, 32, 42, 32, 66] := by kernel_rfl
  rw [← e]
  exact par_self ex6.2.2
theorem ex10 : parR [109, 97, 120, 111, 117, 116, 32, 84, 32, 48, 51] = none := by
  cases h : parR [109, 97, 120, 111, 117, 116, 32, 84, 32, 48, 51] with
  | none => rfl
  | some r =>
    exfalso
    have e := par_txt h
    have hc : chkR r = 0 := txt_chk (by rw [e]; simp)
    have hk : r.kd = 7 := txt_kd hc (k := 7) rfl (by rw [e]; rfl)
    have hm : numW 7 (txtR r) = itoa r.nn := by rw [← hk]; exact (txt_read hc).1 hk
    rw [e, show numW 7 [109, 97, 120, 111, 117, 116, 32, 84, 32, 48, 51] = [48, 51] from by kernel_rfl] at hm
    have c := (chk_0 hc).2.2.1
    unfold numR at c
    rw [hk] at c
    simp [kindK] at c
    have q := atoi_itoa r.nn (by omega) (by omega)
    rw [← hm] at q
    have q2 : Lib.atoiAll [48, 51] = .ok 3 := by kernel_rfl
    rw [q2] at q
    have q3 : r.nn = 3 := by injection q with q; exact q.symm
    rw [q3] at hm
    have q4 : itoa 3 = [51] := by
      unfold itoa
      rw [if_neg (by decide), show (3 : Int).toNat = 3 from rfl, Lib.decDigits, dif_pos (by decide)]
      rfl
    rw [q4] at hm
    cases hm
end Go.Proofs.YtadnaakbhgacgaaDoor
