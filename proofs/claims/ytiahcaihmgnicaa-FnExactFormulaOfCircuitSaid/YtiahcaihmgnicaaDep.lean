/-
  Contracts of DepthOf, of the model and of the program. Conditions: what the slice holds is known.
-/
import Derived.Test.YtiahcaihmgnicaaCirB
import Derived.Test.YtiahcaihmgnicaaRowI
import Derived.BigQuiet
import Derived.Deep.QuietTactic
namespace Go.Proofs.Ytiahcaihmgnicaa
open Go.RowKit
theorem depL_bd (L : List Gt) : ∀ k j : Nat, 0 ≤ (depL L k).getD j 0 ∧ (depL L k).getD j 0 ≤ k
  | 0, j => by simp [depL]
  | k + 1, j => by
    have ih := depL_bd L k
    simp only [depL, List.getD_eq_getElem?_getD] at ih ⊢
    by_cases hj : j < (depL L k).length
    · rw [List.getElem?_append_left hj]
      have := ih j
      omega
    · rw [List.getElem?_append_right (by omega)]
      by_cases he : j - (depL L k).length = 0
      · rw [he]
        simp only [List.getElem?_cons_zero, Option.getD_some]
        have h1 := ih (gAt L k).a.toNat
        have h2 := ih (gAt L k).b.toNat
        split <;> omega
      · rw [List.getElem?_eq_none (by simp; omega)]
        simp; omega
/-- what DepthOf returns -/
def depV (p : Int) (L : List Gt) : Int := if circB p L = true then (depL L L.length).getD (L.length - 1) 0 else -1
end Go.Proofs.Ytiahcaihmgnicaa
