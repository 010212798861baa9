/-
  The laws of fields, as plain facts on the values of AddIn, MulIn, MinusIn. Conditions: the numbers are elements of the field of a prime.
-/
import Derived.Test.YtpoemcigklanoaaFldD
namespace Go.Proofs.Ytpoemcigklanoaa
theorem emod_emod' (a p : Int) : a % p % p = a % p := Int.emod_emod_of_dvd _ (Int.dvd_refl p)
theorem isE2_mk {p a c : Int} (hp : isP p = true) (a0 : 0 ≤ a) (a1 : a < p) (c0 : 0 ≤ c) (c1 : c < p) : isE2 p a c = true := isE2_iff.2 ⟨hp, ⟨a0, a1⟩, ⟨c0, c1⟩⟩
theorem mulV_eq {p a c : Int} (hp : isP p = true) (a0 : 0 ≤ a) (a1 : a < p) (c0 : 0 ≤ c) (c1 : c < p) : mulV p a c = a * c % p := by
  unfold mulV; rw [if_pos (isE2_mk hp a0 a1 c0 c1)]
theorem addV_eq {p a c : Int} (hp : isP p = true) (a0 : 0 ≤ a) (a1 : a < p) (c0 : 0 ≤ c) (c1 : c < p) : addV p a c = (a + c) % p := by
  unfold addV; rw [if_pos (isE2_mk hp a0 a1 c0 c1)]
theorem minV_eq {p a : Int} (hp : isP p = true) (a0 : 0 ≤ a) (a1 : a < p) : minV p a = (-a) % p := by
  unfold minV; rw [if_pos (isE1_iff.2 ⟨hp, a0, a1⟩)]
theorem mod_in {p : Int} (hp : isP p = true) (x : Int) : 0 ≤ x % p ∧ x % p < p := by
  have := isP_bd hp
  exact ⟨Int.emod_nonneg _ (by omega), Int.emod_lt_of_pos _ (by omega)⟩
theorem law_dist {p a b c : Int} (hp : isP p = true) (a0 : 0 ≤ a) (a1 : a < p) (b0 : 0 ≤ b) (b1 : b < p) (c0 : 0 ≤ c) (c1 : c < p) :
    mulV p c (addV p a b) = addV p (mulV p c a) (mulV p c b) := by
  obtain ⟨s0, s1⟩ := mod_in hp (a + b)
  obtain ⟨x0, x1⟩ := mod_in hp (c * a)
  obtain ⟨y0, y1⟩ := mod_in hp (c * b)
  rw [addV_eq hp a0 a1 b0 b1, mulV_eq hp c0 c1 s0 s1, mulV_eq hp c0 c1 a0 a1, mulV_eq hp c0 c1 b0 b1, addV_eq hp x0 x1 y0 y1]
  rw [Int.mul_emod c ((a + b) % p), emod_emod', ← Int.mul_emod, Int.mul_add, ← Int.add_emod]
theorem law_assoc {p a b c : Int} (hp : isP p = true) (a0 : 0 ≤ a) (a1 : a < p) (b0 : 0 ≤ b) (b1 : b < p) (c0 : 0 ≤ c) (c1 : c < p) :
    mulV p c (mulV p a b) = mulV p (mulV p c a) b := by
  obtain ⟨s0, s1⟩ := mod_in hp (a * b)
  obtain ⟨x0, x1⟩ := mod_in hp (c * a)
  rw [mulV_eq hp a0 a1 b0 b1, mulV_eq hp c0 c1 s0 s1, mulV_eq hp c0 c1 a0 a1, mulV_eq hp x0 x1 b0 b1]
  rw [Int.mul_emod c (a * b % p), emod_emod', ← Int.mul_emod, Int.mul_emod (c * a % p) b, emod_emod', ← Int.mul_emod, Int.mul_assoc]
theorem law_addassoc {p a b c : Int} (hp : isP p = true) (a0 : 0 ≤ a) (a1 : a < p) (b0 : 0 ≤ b) (b1 : b < p) (c0 : 0 ≤ c) (c1 : c < p) :
    addV p c (addV p a b) = addV p (addV p c a) b := by
  obtain ⟨s0, s1⟩ := mod_in hp (a + b)
  obtain ⟨x0, x1⟩ := mod_in hp (c + a)
  rw [addV_eq hp a0 a1 b0 b1, addV_eq hp c0 c1 s0 s1, addV_eq hp c0 c1 a0 a1, addV_eq hp x0 x1 b0 b1]
  rw [Int.add_emod c ((a + b) % p), emod_emod', ← Int.add_emod, Int.add_emod ((c + a) % p) b, emod_emod', ← Int.add_emod, Int.add_assoc]
theorem law_comm (p a b : Int) : mulV p b a = mulV p a b ∧ addV p b a = addV p a b := by
  have e : isE2 p b a = isE2 p a b := by unfold isE2; rw [Bool.and_comm (isE p b)]
  unfold mulV addV
  rw [e, Int.mul_comm b a, Int.add_comm b a]
  exact ⟨rfl, rfl⟩
theorem law_minus {p a : Int} (hp : isP p = true) (a0 : 0 ≤ a) (a1 : a < p) : addV p a (minV p a) = 0 := by
  obtain ⟨s0, s1⟩ := mod_in hp (-a)
  rw [minV_eq hp a0 a1, addV_eq hp a0 a1 s0 s1, Int.add_emod a, emod_emod', ← Int.add_emod, Int.add_right_neg, Int.zero_emod]
theorem zero_all : ∀ q ∈ [2, 3, 5, 7, 11, 13], ∀ a, a < q → ∀ b, b < q → (a * b % q == 0) = (a == 0 || b == 0) := by decide +kernel
theorem law_zero {p a b : Int} (hp : isP p = true) (a0 : 0 ≤ a) (a1 : a < p) (b0 : 0 ≤ b) (b1 : b < p) : (mulV p a b == 0) = (a == 0 || b == 0) := by
  rw [mulV_eq hp a0 a1 b0 b1]
  obtain ⟨x, rfl⟩ := Int.eq_ofNat_of_zero_le a0
  obtain ⟨y, rfl⟩ := Int.eq_ofNat_of_zero_le b0
  obtain ⟨q, rfl⟩ := Int.eq_ofNat_of_zero_le (show 0 ≤ p by have := isP_bd hp; omega)
  have hq : q ∈ [2, 3, 5, 7, 11, 13] := by
    have := isP_cases hp
    simp only [List.mem_cons, List.not_mem_nil, or_false]
    omega
  have h := zero_all q hq x (by omega) y (by omega)
  have e1 : (((x : Int) * (y : Int) % (q : Int)) == 0) = (x * y % q == 0) := by
    have e0 : (x : Int) * (y : Int) % (q : Int) = ((x * y % q : Nat) : Int) := by simp
    rw [e0, Bool.eq_iff_iff]; simp only [beq_iff_eq]; omega
  have e2 : (((x : Int) == 0) || ((y : Int) == 0)) = (x == 0 || y == 0) := by
    rw [Bool.eq_iff_iff]; simp only [Bool.or_eq_true, beq_iff_eq]; omega
  rw [e1, e2, h]
theorem mulV_bd {p a b : Int} (h : isE2 p a b = true) : 0 ≤ mulV p a b ∧ mulV p a b < p ∧ 0 ≤ addV p a b ∧ addV p a b < p := by
  obtain ⟨hp, ⟨a0, a1⟩, ⟨b0, b1⟩⟩ := isE2_iff.1 h
  rw [mulV_eq hp a0 a1 b0 b1, addV_eq hp a0 a1 b0 b1]
  obtain ⟨x0, x1⟩ := mod_in hp (a * b)
  obtain ⟨y0, y1⟩ := mod_in hp (a + b)
  exact ⟨x0, x1, y0, y1⟩
theorem mulV_no {p a b : Int} (h : isE2 p a b = false) : mulV p a b = -1 ∧ addV p a b = -1 := by
  simp [mulV, addV, h]
end Go.Proofs.Ytpoemcigklanoaa
