/-
  Contracts of powers, of the model, and of PowerIn of both. Conditions: none but that arguments are 64-bit integers.
-/
import Derived.Test.YtajabchbdhjdiaaBa15
import Derived.WalkSmall
import Derived.Laws.Bits64b
namespace Go.Proofs.Ytajabchbdhjdiaa
open Go.RowKit
theorem and_one_i64 (m : Int) (h0 : 0 ≤ m) (h1 : m ≤ 9223372036854775807) : bits BinOp.and IntKind.i64 m 1 = m % 2 := by
  obtain ⟨a, rfl⟩ := Int.eq_ofNat_of_zero_le h0
  have e1 : (BitVec.ofInt 64 (a : Int)).toNat = a := by
    rw [BitVec.ofInt_natCast, BitVec.toNat_ofNat]; exact Nat.mod_eq_of_lt (by omega)
  have e2 : (BitVec.ofInt 64 (1 : Int)).toNat = 1 := by decide
  show IntKind.i64.wrap ((BitVec.ofInt 64 (a : Int) &&& BitVec.ofInt 64 1).toNat : Int) = _
  rw [BitVec.toNat_and, e1, e2, Nat.and_one_is_mod, IntWalk.i64_in _ (by omega)]
  omega
theorem pow_mod (b p : Int) (k : Nat) : (b % p) ^ k % p = b ^ k % p := by
  induction k with
  | zero => simp
  | succ k ih => rw [Int.pow_succ, Int.pow_succ, Int.mul_emod, ih, Int.emod_emod_of_dvd _ (Int.dvd_refl p), ← Int.mul_emod]
theorem sq_odd (p x b : Int) (m : Nat) (h : m % 2 = 1) : x * b % p * (b * b % p) ^ (m / 2) % p = x * b ^ m % p := by
  have e : b ^ m = b * (b * b) ^ (m / 2) := by
    have : m = 2 * (m / 2) + 1 := by omega
    conv => lhs; rw [this]
    rw [Int.pow_succ, Int.pow_mul, Int.mul_comm, Int.pow_succ, Int.pow_succ, Int.pow_zero, Int.one_mul]
  rw [e, ← Int.mul_assoc, Int.mul_emod (x * b % p), pow_mod (b * b), Int.emod_emod_of_dvd _ (Int.dvd_refl p), ← Int.mul_emod]
theorem sq_even (p x b : Int) (m : Nat) (h : m % 2 = 0) : x * (b * b % p) ^ (m / 2) % p = x * b ^ m % p := by
  have e : b ^ m = (b * b) ^ (m / 2) := by
    have : m = 2 * (m / 2) := by omega
    conv => lhs; rw [this]
    rw [Int.pow_mul, Int.pow_succ, Int.pow_succ, Int.pow_zero, Int.one_mul]
  rw [e, Int.mul_emod x, pow_mod (b * b), ← Int.mul_emod]
set_option maxHeartbeats 400000 in
theorem sPowLoop (p a n : Int) (hp0 : isP p = true) (ha0 : 0 ≤ a) (ha1 : a < p) (hn0 : 0 ≤ n) (hn1 : n ≤ 9223372036854775807) (w : World) :
    Calls Try.prog 127 #[.int .i64 p, .int .i64 a, .int .i64 n] w fun e w' => e = .returned (.int .i64 (a ^ n.toNat % p)) ∧ w = w' := by
  obtain ⟨hpb1, hpb2⟩ := isP_bd hp0
  go_enter Try.func127, Try.ntmps127
  go_wp2_with fail
  go_loop [1, 2, 7] (fun b m x => ∃ b' m' x' : Int, b = .int .i64 b' ∧ m = .int .i64 m' ∧ x = .int .i64 x' ∧ 0 ≤ b' ∧ b' < p ∧ 0 ≤ m' ∧ m' ≤ n ∧ 0 ≤ x' ∧ x' < p ∧ x' * b' ^ m'.toNat % p = a ^ n.toNat % p) (fun _ m _ => (intOf m).toNat)
  case atStart => exact ⟨a, n, 1, rfl, rfl, rfl, ha0, ha1, hn0, Int.le_refl _, by omega, by omega, by rw [Int.one_mul]⟩
  case round =>
    obtain ⟨b, m, x, rfl, rfl, rfl, hb0, hb1, hm0, hm1, hx0, hx1, hx⟩ := hrel
    have Hx := Lib.hid hx
    clear hx
    by_cases hlt : 0 < m
    · have hxb := mul_bd hp0 hx0 hx1 hb0 hb1
      have hbb := mul_bd hp0 hb0 hb1 hb0 hb1
      obtain ⟨g0, g1⟩ := hxb
      obtain ⟨g2, g3⟩ := hbb
      have hb2a : 0 ≤ b * b % p := Int.emod_nonneg _ (by omega)
      have hb2b : b * b % p < p := Int.emod_lt_of_pos _ (by omega)
      have hxba : 0 ≤ x * b % p := Int.emod_nonneg _ (by omega)
      have hxbb : x * b % p < p := Int.emod_lt_of_pos _ (by omega)
      have e2 : (m / 2).toNat = m.toNat / 2 := by omega
      rcases (show m % 2 = 0 ∨ m % 2 = 1 by omega) with h2 | h2
      · have hz := Lib.hid (sq_even p x b m.toNat (by omega))
        have hbit : (bits BinOp.and IntKind.i64 m 1 == 1) = false := by rw [and_one_i64 m hm0 (by omega), h2]; rfl
        have E2 := Lib.hid e2
        clear h2 e2
        go_wp2
        go_round
        case rel => exact ⟨b * b % p, m / 2, x, rfl, rfl, rfl, hb2a, hb2b, by omega, by omega, hx0, hx1, by rw [E2.out, hz.out, Hx.out]⟩
        case measure => simp [intOf]; omega
      · have hz := Lib.hid (sq_odd p x b m.toNat (by omega))
        have hbit : (bits BinOp.and IntKind.i64 m 1 == 1) = true := by rw [and_one_i64 m hm0 (by omega), h2]; rfl
        have E2 := Lib.hid e2
        clear h2 e2
        go_wp2
        go_round
        case rel => exact ⟨b * b % p, m / 2, x * b % p, rfl, rfl, rfl, hb2a, hb2b, by omega, by omega, hxba, hxbb, by rw [E2.out, hz.out, Hx.out]⟩
        case measure => simp [intOf]; omega
    · go_wp2
      go_ret
      have hm : m = 0 := by omega
      exact ⟨ret_int (by rw [← Hx.out, hm]; simp; rw [Int.emod_eq_of_lt hx0 hx1]), rfl⟩

/-- what PowerIn returns, for all arguments -/
def powV (p a n : Int) : Int := if isE1 p a = true ∧ 0 ≤ n then a ^ n.toNat % p else -1
set_option maxHeartbeats 400000 in
theorem iPowerIn (p a n : Int) (hn1 : n ≤ 9223372036854775807) (w : World) :
    Calls Try.prog 136 #[.int .i64 p, .int .i64 a, .int .i64 n] w fun e w' => e = .returned (.int .i64 (powV p a n)) ∧ Below w.heap.size w w' := by
  cases hE : isE1 p a
  · have hv := Lib.hid (show -1 = powV p a n by simp [powV, hE])
    have hB := Lib.hid hE
    clear hE
    go_enter Try.func136, Try.ntmps136
    go_wp2_with (go_at_call 91; refine (iAE1 p a _ _ (by simp)).mono ?_; rw [hB.out]; rintro e w' ⟨rfl, rfl⟩)
    go_ret
    exact ⟨ret_int hv.out, by repeat (first | exact Below.refl _ _ | apply Below.drew | (refine Below.alloc ?_ (by simp <;> omega) _))⟩
  · by_cases hn : 0 ≤ n
    · have hv := Lib.hid (show a ^ n.toNat % p = powV p a n by simp [powV, hE, hn])
      have hB := Lib.hid hE
      obtain ⟨hp, a0, a1⟩ := isE1_iff.1 hE
      have hP := Lib.hid hp
      clear hE hp
      have hf := fld1
      go_enter Try.func136, Try.ntmps136
      go_wp2_with (first | (go_at_call 91; refine (iAE1 p a _ _ (by simp)).mono ?_; rw [hB.out]; rintro e w' ⟨rfl, rfl⟩) | (go_at_call 158; refine (iPow p a n hP.out a0 a1 hn hn1 _).mono ?_; rintro e w1 ⟨rfl, hb1⟩))
      go_ret
      exact ⟨ret_int hv.out, by repeat (first | exact Below.refl _ _ | apply Below.drew | (refine Below.trans ?_ (Below.mono hb1 (by simp <;> omega))) | (refine Below.alloc ?_ (by simp <;> omega) _))⟩
    · have hv := Lib.hid (show -1 = powV p a n by simp [powV, hn])
      have hB := Lib.hid hE
      clear hE
      go_enter Try.func136, Try.ntmps136
      go_wp2_with (go_at_call 91; refine (iAE1 p a _ _ (by simp)).mono ?_; rw [hB.out]; rintro e w' ⟨rfl, rfl⟩)
      go_ret
      exact ⟨ret_int hv.out, by repeat (first | exact Below.refl _ _ | apply Below.drew | (refine Below.alloc ?_ (by simp <;> omega) _))⟩
end Go.Proofs.Ytajabchbdhjdiaa
