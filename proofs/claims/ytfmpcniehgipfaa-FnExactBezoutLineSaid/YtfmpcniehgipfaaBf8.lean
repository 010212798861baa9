/-
  Contracts of powers, of the model, and of PowerIn of both. Conditions: none but that arguments are 64-bit integers.
  Contracts of the inverse, of both. Conditions: none.
-/
import Derived.Test.YtfmpcniehgipfaaBf6
import Derived.WalkSmall
import Derived.Laws.Bits64b
namespace Go.Proofs.Ytfmpcniehgipfaa
open Go.RowKit
theorem and_one_i64 (m : Int) (h0 : 0 ≤ m) (h1 : m ≤ 9223372036854775807) : bits BinOp.and IntKind.i64 m 1 = m % 2 := by
  obtain ⟨a, rfl⟩ := Int.eq_ofNat_of_zero_le h0
  have e1 : (BitVec.ofInt 64 (a : Int)).toNat = a := by
    rw [BitVec.ofInt_natCast, BitVec.toNat_ofNat]; exact Nat.mod_eq_of_lt (by omega)
  have e2 : (BitVec.ofInt 64 (1 : Int)).toNat = 1 := by decide
  show IntKind.i64.wrap ((BitVec.ofInt 64 (a : Int) &&& BitVec.ofInt 64 1).toNat : Int) = _
  rw [BitVec.toNat_and, e1, e2, Nat.and_one_is_mod, IntWalk.i64_in _ (by omega)]
  omega
theorem pow_mod (b p : Int) (k : Nat) : (b % p) ^ k % p = b ^ k % p := by
  induction k with
  | zero => simp
  | succ k ih => rw [Int.pow_succ, Int.pow_succ, Int.mul_emod, ih, Int.emod_emod_of_dvd _ (Int.dvd_refl p), ← Int.mul_emod]
theorem sq_odd (p x b : Int) (m : Nat) (h : m % 2 = 1) : x * b % p * (b * b % p) ^ (m / 2) % p = x * b ^ m % p := by
  have e : b ^ m = b * (b * b) ^ (m / 2) := by
    have : m = 2 * (m / 2) + 1 := by omega
    conv => lhs; rw [this]
    rw [Int.pow_succ, Int.pow_mul, Int.mul_comm, Int.pow_succ, Int.pow_succ, Int.pow_zero, Int.one_mul]
  rw [e, ← Int.mul_assoc, Int.mul_emod (x * b % p), pow_mod (b * b), Int.emod_emod_of_dvd _ (Int.dvd_refl p), ← Int.mul_emod]
theorem sq_even (p x b : Int) (m : Nat) (h : m % 2 = 0) : x * (b * b % p) ^ (m / 2) % p = x * b ^ m % p := by
  have e : b ^ m = (b * b) ^ (m / 2) := by
    have : m = 2 * (m / 2) := by omega
    conv => lhs; rw [this]
    rw [Int.pow_mul, Int.pow_succ, Int.pow_succ, Int.pow_zero, Int.one_mul]
  rw [e, Int.mul_emod x, pow_mod (b * b), ← Int.mul_emod]
/-- what PowerIn returns, for all arguments -/
def powV (p a n : Int) : Int := if isE1 p a = true ∧ 0 ≤ n then a ^ n.toNat % p else -1
end Go.Proofs.Ytfmpcniehgipfaa
namespace Go.Proofs.Ytfmpcniehgipfaa
open Go.RowKit
/-- the world inside inverse: the element lies in block s, the result in s + 1 -/
structure InvW (p a : Int) (s : Nat) (w wr : World) : Prop where
  a0 : wr.cell? ⟨s, 0, none⟩ = some (.int .i64 p)
  a1 : wr.cell? ⟨s, 1, none⟩ = some (.int .i64 a)
  r0 : wr.cell? ⟨s + 1, 0, none⟩ = some (.int .i64 0)
  r1 : wr.cell? ⟨s + 1, 1, none⟩ = some (.int .i64 0)
  fr0 : wr.frozen? ⟨s + 1, 0, none⟩ = false
  fr1 : wr.frozen? ⟨s + 1, 1, none⟩ = false
  sz : s + 1 < wr.heap.size
  low : Below s w wr
theorem InvW.below {p a : Int} {s : Nat} {w wr w1 : World} (h : InvW p a s w wr) (hb : Below wr.heap.size wr w1) : InvW p a s w w1 := by
  obtain ⟨hc, hf⟩ := bcell hb
  have sz := h.sz
  have e := hb.size
  constructor
  · rw [hc _ _ (by omega)]; exact h.a0
  · rw [hc _ _ (by omega)]; exact h.a1
  · rw [hc _ _ (by omega)]; exact h.r0
  · rw [hc _ _ (by omega)]; exact h.r1
  · rw [hf _ _ (by omega)]; exact h.fr0
  · rw [hf _ _ (by omega)]; exact h.fr1
  · omega
  · exact h.low.trans (hb.mono (by omega))
/-- what inverse returns -/
def invT (p a : Int) : Value := match invO p a with
  | some n => .tuple #[(.agg #[.int .i64 (p), .int .i64 (n)]), .bool true]
  | none => .tuple #[(.agg #[.int .i64 (0), .int .i64 (0)]), .bool false]
set_option maxHeartbeats 1000000 in
theorem iInv (p a : Int) (hp0 : isP p = true) (ha0 : 0 ≤ a) (ha1 : a < p) (w : World) :
    Calls Try.prog 86 #[(.agg #[.int .i64 (p), .int .i64 (a)])] w fun e w' => e = .returned (invT p a) ∧ Below w.heap.size w w' := by
  have hp := Lib.hid hp0
  obtain ⟨hpb1, hpb2⟩ := isP_bd hp0
  clear hp0
  have hf := fld1
  go_enter Try.func86, Try.ntmps86
  go_wp2_with fail
  have HW : InvW p a w.heap.size w ((w.alloc (Obj.cells #[Value.int IntKind.i64 p, Value.int IntKind.i64 a] 61)).alloc (Obj.cells #[Value.int IntKind.i64 0, Value.int IntKind.i64 0] 61)) := by
    constructor
    case low => repeat (first | exact Below.refl _ _ | (refine Below.alloc ?_ (by simp <;> omega) _))
    all_goals simp [go_sem]
  go_loopw [8] (fun i wr => ∃ k : Nat, (k : Int) ≤ p ∧ i = .int .i64 k ∧ (∀ j : Nat, j < k → (a * j % p == 1) = false) ∧ InvW p a w.heap.size w wr) (fun i _ => p.toNat - (intOf i).toNat)
  case atStart => exact ⟨0, by omega, rfl, fun j hj => by omega, HW⟩
  case round =>
    obtain ⟨k, hk, rfl, hall, hR⟩ := hrel
    clear HW
    have Hall := Lib.hid hall
    clear hall
    have HR := Lib.hid hR
    obtain ⟨a0, a1, r0, r1, fr0, fr1, sz, low⟩ := hR
    have z0 : w.heap.size < wr.heap.size := by omega
    by_cases hlt : (k : Int) < p
    · go_wp2_with fail
      refine (iTimes p a k hp.out ha0 ha1 (by omega) hlt _).mono ?_
      rintro e w1 ⟨rfl, hb1⟩
      have hb2 : Below wr.heap.size wr w1 := ((Below.refl _ _).alloc (Nat.le_refl _) _).trans (hb1.mono (by simp))
      have hR1 := HR.out.below hb2
      obtain ⟨hc, hfz⟩ := bcell hb1
      have t0 : w1.cell? ⟨wr.heap.size, 0, none⟩ = some (.int .i64 p) := by rw [hc _ _ (by simp)]; simp [go_sem]
      have t1 : w1.cell? ⟨wr.heap.size, 1, none⟩ = some (.int .i64 k) := by rw [hc _ _ (by simp)]; simp [go_sem]
      have HR1 := Lib.hid hR1
      clear a0 a1 r0 r1 fr0 fr1 sz low HR hb1 hb2 hc hfz
      obtain ⟨a0, a1, r0, r1, fr0, fr1, sz, low⟩ := hR1
      by_cases h1 : a * k % p = 1
      · have hb : (a * k % p == 1) = true := by rw [h1]; rfl
        have hres := Lib.hid (invO_some hlt h1 Hall.out)
        clear h1
        go_wp2
        obtain ⟨q0, q1⟩ := two_set (y0 := .int .i64 p) (y1 := .int .i64 k) r0 r1
        refine bodyPost_ret (v := .tuple #[(.agg #[.int .i64 (p), .int .i64 (k)]), .bool true]) (by simp [results, Try.results86, go_sem, q0, q1]) rfl ⟨?_, (low.setCell (by simp) _).setCell (by simp) _⟩
        unfold invT; rw [hres.out]
      · have hb : (a * k % p == 1) = false := by simpa using h1
        have Hb := Lib.hid hb
        clear h1
        go_wp2
        go_roundw
        case rel => exact ⟨k + 1, by omega, by go_num, (fun j hj => by by_cases e : j = k; · rw [e]; exact Hb.out
                                                                       · exact Hall.out j (by omega)), HR1.out⟩
        case measure => simp [intOf]; omega
    · have hres := Lib.hid (invO_none (p := p) (a := a) (fun j hj => Hall.out j (by omega)))
      go_wp2
      obtain ⟨q0, q1⟩ := two_set (y0 := .int .i64 0) (y1 := .int .i64 0) r0 r1
      refine bodyPost_ret (v := .tuple #[(.agg #[.int .i64 (0), .int .i64 (0)]), .bool false]) (by simp [results, Try.results86, go_sem, q0, q1]) rfl ⟨?_, (low.setCell (by simp) _).setCell (by simp) _⟩
      unfold invT; rw [hres.out]
/-- the inverse, 0 if there is none; whether there is one -/
def ivV (p a : Int) : Int := if isE1 p a = true then (((invO p a).getD 0 : Nat) : Int) else 0
def ivB (p a : Int) : Bool := isE1 p a && (invO p a).isSome
theorem inv_all : ∀ q ∈ [2, 3, 5, 7, 11, 13], ∀ b, b < q → (invO (q : Nat) (b : Nat)).isSome = (b != 0) ∧ (invO (q : Nat) (b : Nat)).getD 0 < q := by
  decide +kernel
theorem inv_fact {p a : Int} (h : isP p = true) (h0 : 0 ≤ a) (h1 : a < p) : (invO p a).isSome = (a != 0) ∧ (((invO p a).getD 0 : Nat) : Int) < p := by
  obtain ⟨b, rfl⟩ := Int.eq_ofNat_of_zero_le h0
  obtain ⟨q, rfl⟩ := Int.eq_ofNat_of_zero_le (show 0 ≤ p by have := isP_bd h; omega)
  have hq : q ∈ [2, 3, 5, 7, 11, 13] := by
    have := isP_cases h
    simp only [List.mem_cons, List.not_mem_nil, or_false]
    omega
  obtain ⟨r1, r2⟩ := inv_all q hq b (by omega)
  refine ⟨?_, by exact_mod_cast r2⟩
  rw [r1]
  cases b <;> rfl
theorem ret_two {a b : Int} {c d : Bool} (h : a = b) (k : c = d) : Ending.returned (.tuple #[.int .i64 a, .bool c]) = .returned (.tuple #[.int .i64 b, .bool d]) := by rw [h, k]
end Go.Proofs.Ytfmpcniehgipfaa
