
/-
  The order of rational numbers as Cmp tells it. Plain mathematics.
-/
import Derived.Test.YtomkanmmfgiemaaDoorFracM

namespace Go.Proofs.YtomkanmmfgiemaaDoor

theorem cmp_0 {x y : Rat} : cmpQ x y = 0 ↔ x = y := by
  unfold cmpQ
  split
  · rename_i h
    constructor
    · intro k; omega
    · rintro rfl; exact absurd h Rat.lt_irrefl
  · split
    · rename_i h
      constructor
      · intro k; omega
      · rintro rfl; exact absurd h Rat.lt_irrefl
    · rename_i h k
      constructor
      · intro _; exact Rat.le_antisymm (Rat.not_lt.1 k) (Rat.not_lt.1 h)
      · intro _; rfl
theorem cmp_self (x : Rat) : cmpQ x x = 0 := cmp_0.2 rfl
theorem fz_ok {n d : Int} (h : okF n d = true) : fz n d = fv n d := if_pos h
theorem cmp_eq {an ad bn bd : Int} (ha : okF an ad = true) (hb : okF bn bd = true) : cmpQ (fz an ad) (fz bn bd) = 0 ↔ an = bn ∧ ad = bd := by
  rw [fz_ok ha, fz_ok hb, cmp_0]
  constructor
  · exact ok_inj (okF_t ha) (okF_t hb)
  · rintro ⟨rfl, rfl⟩; rfl
end Go.Proofs.YtomkanmmfgiemaaDoor
