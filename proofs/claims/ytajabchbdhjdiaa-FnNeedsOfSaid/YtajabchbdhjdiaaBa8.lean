/-
  Plain mathematics of small prime fields: no Go in sight. Conditions: none.
-/
import Derived.Below
namespace Go.Proofs.Ytajabchbdhjdiaa
/-- the primes of the document -/
def isP (p : Int) : Bool := p == 2 || p == 3 || p == 5 || p == 7 || p == 11 || p == 13
theorem isP_cases {p : Int} (h : isP p = true) : p = 2 ∨ p = 3 ∨ p = 5 ∨ p = 7 ∨ p = 11 ∨ p = 13 := by
  simpa [isP, or_assoc] using h
theorem isP_bd {p : Int} (h : isP p = true) : 2 ≤ p ∧ p ≤ 13 := by
  have := isP_cases h; omega
theorem isP_no {p : Int} (h : isP p = false) : (p == 2) = false ∧ (p == 3) = false ∧ (p == 5) = false ∧ (p == 7) = false ∧ (p == 11) = false ∧ (p == 13) = false := by
  simpa [isP, and_assoc] using h
/-- an element of the field -/
def isE (p a : Int) : Bool := decide (0 ≤ a) && decide (a < p)
theorem isE_iff {p a : Int} : isE p a = true ↔ 0 ≤ a ∧ a < p := by simp [isE]
theorem isE_no {p a : Int} (h : isE p a = false) : a < 0 ∨ (0 ≤ a ∧ p ≤ a) := by
  have : ¬ (0 ≤ a ∧ a < p) := by rw [← isE_iff]; simp [h]
  omega
theorem tmod_bd (n p : Int) (h : 0 < p) : - p < n.tmod p ∧ n.tmod p < p := by
  have h1 := Int.tmod_lt_of_pos n h
  have h2 : -p < n.tmod p := by
    by_cases h0 : 0 ≤ n
    · have := Int.tmod_nonneg p h0; omega
    · have h3 := Int.tmod_lt_of_pos (-n) h
      rw [Int.neg_tmod] at h3; omega
  exact ⟨h2, h1⟩
theorem tmod_add_mod (n p : Int) (_ : 0 < p) : (n.tmod p + p) % p = n % p := by
  rw [Int.add_emod_right]
  have h1 := Int.mul_tdiv_add_tmod n p
  conv => rhs; rw [← h1]
  rw [Int.add_comm, Int.add_mul_emod_self_left]
end Go.Proofs.Ytajabchbdhjdiaa
