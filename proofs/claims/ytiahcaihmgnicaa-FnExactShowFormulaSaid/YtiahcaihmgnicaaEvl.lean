/-
  Contracts of the model's EvalGates. Conditions: what the slice holds is known.
-/
import Derived.Test.YtiahcaihmgnicaaCirB
import Derived.Test.YtiahcaihmgnicaaRowI
import Derived.Test.YtiahcaihmgnicaaPt
import Derived.BigQuiet
import Derived.Deep.QuietTactic
namespace Go.Proofs.Ytiahcaihmgnicaa
open Go.RowKit
def coord (x y z a : Int) : Int := if a == 0 then x else if a == 1 then y else z
/-- the values of the gates below k -/
def evL (p x y z : Int) (L : List Gt) : Nat → List Int
  | 0 => []
  | k + 1 => evL p x y z L k ++ [let g := gAt L k
      if g.k == 0 then coord x y z g.a
      else if g.k == 2 then ((evL p x y z L k).getD g.a.toNat 0 + (evL p x y z L k).getD g.b.toNat 0) % p
      else if g.k == 3 then ((evL p x y z L k).getD g.a.toNat 0 * (evL p x y z L k).getD g.b.toNat 0) % p
      else g.a]
theorem evL_len (p x y z : Int) (L : List Gt) : ∀ k, (evL p x y z L k).length = k
  | 0 => rfl
  | k + 1 => by simp [evL, evL_len p x y z L k]
theorem isE3_iff {p x y z : Int} : isE3 p x y z = true ↔ (0 ≤ x ∧ x < p) ∧ (0 ≤ y ∧ y < p) ∧ (0 ≤ z ∧ z < p) := by simp [isE3, isE]
theorem evL_bd {p x y z : Int} {L : List Gt} (hv : circB p L = true) (he : isE3 p x y z = true) : ∀ k : Nat, k ≤ L.length → ∀ j : Nat, j < k → 0 ≤ (evL p x y z L k).getD j 0 ∧ (evL p x y z L k).getD j 0 < p
  | 0, _, j, h => by omega
  | k + 1, hk, j, hj => by
    have ih := evL_bd hv he k (by omega)
    obtain ⟨hp, _, _, hall⟩ := circB_iff.1 hv
    obtain ⟨p0, p1⟩ := isP_bd hp
    obtain ⟨hx, hy, hz⟩ := isE3_iff.1 he
    have hl := evL_len p x y z L k
    simp only [evL, List.getD_eq_getElem?_getD] at ih ⊢
    by_cases hjk : j < k
    · rw [List.getElem?_append_left (by omega)]
      exact ih j hjk
    · have : j = k := by omega
      subst this
      rw [List.getElem?_append_right (by omega), hl, Nat.sub_self]
      simp only [List.getElem?_cons_zero, Option.getD_some]
      have h := gOK_cases (hall j (by omega))
      generalize gAt L j = g at h
      obtain ⟨gk, ga, gb⟩ := g
      simp only at h ⊢
      split
      · unfold coord; split
        · exact hx
        · split
          · exact hy
          · exact hz
      · split
        · exact ⟨Int.emod_nonneg _ (by omega), Int.emod_lt_of_pos _ (by omega)⟩
        · split
          · exact ⟨Int.emod_nonneg _ (by omega), Int.emod_lt_of_pos _ (by omega)⟩
          · rename_i h0 h2 h3; simp at h0 h2 h3; omega
/-- what EvalGates returns -/
def evV2 (p x y z : Int) (L : List Gt) : List Int := if circB p L && isE3 p x y z then evL p x y z L L.length else []
/-- the values fit the gate -/
theorem evL_step {p x y z : Int} {L : List Gt} {k : Nat} {g : Gt} (hg : gAt L k = g) {v : Int}
    (h : (if g.k == 0 then coord x y z g.a else if g.k == 2 then ((evL p x y z L k).getD g.a.toNat 0 + (evL p x y z L k).getD g.b.toNat 0) % p
      else if g.k == 3 then ((evL p x y z L k).getD g.a.toNat 0 * (evL p x y z L k).getD g.b.toNat 0) % p else g.a) = v) : evL p x y z L (k + 1) = evL p x y z L k ++ [v] := by
  simp only [evL, hg, h]
end Go.Proofs.Ytiahcaihmgnicaa
