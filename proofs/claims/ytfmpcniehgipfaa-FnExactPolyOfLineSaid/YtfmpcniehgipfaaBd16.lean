/-
  Contracts of both EvalPoly. Conditions: what the slice holds is known.
-/
import Derived.Test.YtfmpcniehgipfaaBd11
import Derived.Test.YtfmpcniehgipfaaBd10
import Derived.Test.YtfmpcniehgipfaaBd15
namespace Go.Proofs.Ytfmpcniehgipfaa
open Go.RowKit
/-- the value of a term at a point -/
def valT (p x y z : Int) (T : Trm) : Int := T.t * (x ^ T.a.toNat % p) % p * (y ^ T.b.toNat % p) % p * (z ^ T.c.toNat % p) % p
def evK (p x y z : Int) (L : List Trm) : Nat → Int
  | 0 => 0
  | k + 1 => (evK p x y z L k + valT p x y z (L.getD k default)) % p
theorem emod_bd {n p : Int} (h : 2 ≤ p) : 0 ≤ n % p ∧ n % p < p := ⟨Int.emod_nonneg _ (by omega), Int.emod_lt_of_pos _ (by omega)⟩
theorem powV_is {p a n : Int} (hp : isP p = true) (ha : isE p a = true) (hn : 0 ≤ n) : powV p a n = a ^ n.toNat % p := by
  have : isE1 p a = true := by simp [isE1, hp, ha]
  simp [powV, this, hn]
theorem mulV_is {p a c : Int} (hp : isP p = true) (ha : isE p a = true) (hc : isE p c = true) : mulV p a c = a * c % p := by
  have : isE2 p a c = true := by simp [isE2, hp, ha, hc]
  simp [mulV, this]
theorem addV_is {p a c : Int} (hp : isP p = true) (ha : isE p a = true) (hc : isE p c = true) : addV p a c = (a + c) % p := by
  have : isE2 p a c = true := by simp [isE2, hp, ha, hc]
  simp [addV, this]
theorem isE_mod {p n : Int} (hp : isP p = true) : isE p (n % p) = true := by
  have := isP_bd hp
  exact isE_iff.2 (emod_bd (by omega))
theorem val_is {p x y z : Int} {T : Trm} (hp : isP p = true) (ht : isE p T.t = true) (hx : isE p x = true) (hy : isE p y = true) (hz : isE p z = true) (h : (0 ≤ T.a ∧ T.a ≤ 9) ∧ (0 ≤ T.b ∧ T.b ≤ 9) ∧ (0 ≤ T.c ∧ T.c ≤ 9)) :
    mulV p (mulV p (mulV p T.t (powV p x T.a)) (powV p y T.b)) (powV p z T.c) = valT p x y z T := by
  rw [powV_is hp hx h.1.1, powV_is hp hy h.2.1.1, powV_is hp hz h.2.2.1, mulV_is hp ht (isE_mod hp), mulV_is hp (isE_mod hp) (isE_mod hp), mulV_is hp (isE_mod hp) (isE_mod hp)]
  rfl
theorem validB_el {p : Int} {L : List Trm} (h : validB p L = true) {k : Nat} (hk : k < L.length) {x : Trm} (hx : x = L.getD k default) : 1 ≤ x.t ∧ x.t < p := by
  have h1 := validB_at h hk
  rw [hx]
  simp only [okAt, tokB, Bool.and_eq_true, decide_eq_true_eq] at h1
  omega
theorem evK_bd {p : Int} (hp : isP p = true) (x y z : Int) (L : List Trm) (k : Nat) : 0 ≤ evK p x y z L k ∧ evK p x y z L k < p := by
  have := isP_bd hp
  cases k with
  | zero => exact ⟨Int.le_refl 0, show (0 : Int) < p by omega⟩
  | succ k => exact emod_bd (by omega)
end Go.Proofs.Ytfmpcniehgipfaa
