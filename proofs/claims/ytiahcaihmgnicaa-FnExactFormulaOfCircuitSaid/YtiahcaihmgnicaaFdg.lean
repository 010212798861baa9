/-
  Contracts of the model's FormalDegree. Conditions: what the slice holds is known.
-/
import Derived.Test.YtiahcaihmgnicaaDep
namespace Go.Proofs.Ytiahcaihmgnicaa
open Go.RowKit
theorem degL_bd (L : List Gt) : ∀ k j : Nat, 0 ≤ (degL L k).getD j 0 ∧ (degL L k).getD j 0 ≤ 1000
  | 0, j => by simp [degL]
  | k + 1, j => by
    have ih := degL_bd L k
    simp only [degL, List.getD_eq_getElem?_getD] at ih ⊢
    by_cases hj : j < (degL L k).length
    · rw [List.getElem?_append_left hj]
      exact ih j
    · rw [List.getElem?_append_right (by omega)]
      by_cases he : j - (degL L k).length = 0
      · rw [he]
        simp only [List.getElem?_cons_zero, Option.getD_some]
        have h1 := ih (gAt L k).a.toNat
        have h2 := ih (gAt L k).b.toNat
        split
        · omega
        · split
          · omega
          · split <;> omega
      · rw [List.getElem?_eq_none (by simp; omega)]
        simp
/-- what FormalDegree returns -/
def degV (p : Int) (L : List Gt) : Int := if circB p L = true then (degL L L.length).getD (L.length - 1) 0 else -1
end Go.Proofs.Ytiahcaihmgnicaa
