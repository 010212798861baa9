/-
  Contracts of powers, of the model, and of PowerIn of both. Conditions: none but that arguments are 64-bit integers.
-/
import Derived.Test.YtfmpcniehgipfaaBd9
import Derived.WalkSmall
import Derived.Laws.Bits64b
namespace Go.Proofs.Ytfmpcniehgipfaa
open Go.RowKit
theorem and_one_i64 (m : Int) (h0 : 0 ≤ m) (h1 : m ≤ 9223372036854775807) : bits BinOp.and IntKind.i64 m 1 = m % 2 := by
  obtain ⟨a, rfl⟩ := Int.eq_ofNat_of_zero_le h0
  have e1 : (BitVec.ofInt 64 (a : Int)).toNat = a := by
    rw [BitVec.ofInt_natCast, BitVec.toNat_ofNat]; exact Nat.mod_eq_of_lt (by omega)
  have e2 : (BitVec.ofInt 64 (1 : Int)).toNat = 1 := by decide
  show IntKind.i64.wrap ((BitVec.ofInt 64 (a : Int) &&& BitVec.ofInt 64 1).toNat : Int) = _
  rw [BitVec.toNat_and, e1, e2, Nat.and_one_is_mod, IntWalk.i64_in _ (by omega)]
  omega
theorem pow_mod (b p : Int) (k : Nat) : (b % p) ^ k % p = b ^ k % p := by
  induction k with
  | zero => simp
  | succ k ih => rw [Int.pow_succ, Int.pow_succ, Int.mul_emod, ih, Int.emod_emod_of_dvd _ (Int.dvd_refl p), ← Int.mul_emod]
theorem sq_odd (p x b : Int) (m : Nat) (h : m % 2 = 1) : x * b % p * (b * b % p) ^ (m / 2) % p = x * b ^ m % p := by
  have e : b ^ m = b * (b * b) ^ (m / 2) := by
    have : m = 2 * (m / 2) + 1 := by omega
    conv => lhs; rw [this]
    rw [Int.pow_succ, Int.pow_mul, Int.mul_comm, Int.pow_succ, Int.pow_succ, Int.pow_zero, Int.one_mul]
  rw [e, ← Int.mul_assoc, Int.mul_emod (x * b % p), pow_mod (b * b), Int.emod_emod_of_dvd _ (Int.dvd_refl p), ← Int.mul_emod]
theorem sq_even (p x b : Int) (m : Nat) (h : m % 2 = 0) : x * (b * b % p) ^ (m / 2) % p = x * b ^ m % p := by
  have e : b ^ m = (b * b) ^ (m / 2) := by
    have : m = 2 * (m / 2) := by omega
    conv => lhs; rw [this]
    rw [Int.pow_mul, Int.pow_succ, Int.pow_succ, Int.pow_zero, Int.one_mul]
  rw [e, Int.mul_emod x, pow_mod (b * b), ← Int.mul_emod]
/-- what PowerIn returns, for all arguments -/
def powV (p a n : Int) : Int := if isE1 p a = true ∧ 0 ≤ n then a ^ n.toNat % p else -1
end Go.Proofs.Ytfmpcniehgipfaa
