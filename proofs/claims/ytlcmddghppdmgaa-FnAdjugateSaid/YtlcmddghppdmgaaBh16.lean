/-
  Contracts of powers, of the model, and of PowerIn of both. Conditions: none but that arguments are 64-bit integers.
  Contracts of the inverse, of both. Conditions: none.
-/
import Derived.Test.YtlcmddghppdmgaaBh14
import Derived.WalkSmall
import Derived.Laws.Bits64b
namespace Go.Proofs.Ytlcmddghppdmgaa
open Go.RowKit
theorem and_one_i64 (m : Int) (h0 : 0 ≤ m) (h1 : m ≤ 9223372036854775807) : bits BinOp.and IntKind.i64 m 1 = m % 2 := by
  obtain ⟨a, rfl⟩ := Int.eq_ofNat_of_zero_le h0
  have e1 : (BitVec.ofInt 64 (a : Int)).toNat = a := by
    rw [BitVec.ofInt_natCast, BitVec.toNat_ofNat]; exact Nat.mod_eq_of_lt (by omega)
  have e2 : (BitVec.ofInt 64 (1 : Int)).toNat = 1 := by decide
  show IntKind.i64.wrap ((BitVec.ofInt 64 (a : Int) &&& BitVec.ofInt 64 1).toNat : Int) = _
  rw [BitVec.toNat_and, e1, e2, Nat.and_one_is_mod, IntWalk.i64_in _ (by omega)]
  omega
theorem pow_mod (b p : Int) (k : Nat) : (b % p) ^ k % p = b ^ k % p := by
  induction k with
  | zero => simp
  | succ k ih => rw [Int.pow_succ, Int.pow_succ, Int.mul_emod, ih, Int.emod_emod_of_dvd _ (Int.dvd_refl p), ← Int.mul_emod]
theorem sq_odd (p x b : Int) (m : Nat) (h : m % 2 = 1) : x * b % p * (b * b % p) ^ (m / 2) % p = x * b ^ m % p := by
  have e : b ^ m = b * (b * b) ^ (m / 2) := by
    have : m = 2 * (m / 2) + 1 := by omega
    conv => lhs; rw [this]
    rw [Int.pow_succ, Int.pow_mul, Int.mul_comm, Int.pow_succ, Int.pow_succ, Int.pow_zero, Int.one_mul]
  rw [e, ← Int.mul_assoc, Int.mul_emod (x * b % p), pow_mod (b * b), Int.emod_emod_of_dvd _ (Int.dvd_refl p), ← Int.mul_emod]
theorem sq_even (p x b : Int) (m : Nat) (h : m % 2 = 0) : x * (b * b % p) ^ (m / 2) % p = x * b ^ m % p := by
  have e : b ^ m = (b * b) ^ (m / 2) := by
    have : m = 2 * (m / 2) := by omega
    conv => lhs; rw [this]
    rw [Int.pow_mul, Int.pow_succ, Int.pow_succ, Int.pow_zero, Int.one_mul]
  rw [e, Int.mul_emod x, pow_mod (b * b), ← Int.mul_emod]
set_option maxHeartbeats 400000 in
theorem sPowLoop (p a n : Int) (hp0 : isP p = true) (ha0 : 0 ≤ a) (ha1 : a < p) (hn0 : 0 ≤ n) (hn1 : n ≤ 9223372036854775807) (w : World) :
    Calls Try.prog 211 #[.int .i64 p, .int .i64 a, .int .i64 n] w fun e w' => e = .returned (.int .i64 (a ^ n.toNat % p)) ∧ w = w' := by
  obtain ⟨hpb1, hpb2⟩ := isP_bd hp0
  go_enter Try.func211, Try.ntmps211
  go_wp2_with fail
  go_loop [1, 2, 7] (fun b m x => ∃ b' m' x' : Int, b = .int .i64 b' ∧ m = .int .i64 m' ∧ x = .int .i64 x' ∧ 0 ≤ b' ∧ b' < p ∧ 0 ≤ m' ∧ m' ≤ n ∧ 0 ≤ x' ∧ x' < p ∧ x' * b' ^ m'.toNat % p = a ^ n.toNat % p) (fun _ m _ => (intOf m).toNat)
  case atStart => exact ⟨a, n, 1, rfl, rfl, rfl, ha0, ha1, hn0, Int.le_refl _, by omega, by omega, by rw [Int.one_mul]⟩
  case round =>
    obtain ⟨b, m, x, rfl, rfl, rfl, hb0, hb1, hm0, hm1, hx0, hx1, hx⟩ := hrel
    have Hx := Lib.hid hx
    clear hx
    by_cases hlt : 0 < m
    · have hxb := mul_bd hp0 hx0 hx1 hb0 hb1
      have hbb := mul_bd hp0 hb0 hb1 hb0 hb1
      obtain ⟨g0, g1⟩ := hxb
      obtain ⟨g2, g3⟩ := hbb
      have hb2a : 0 ≤ b * b % p := Int.emod_nonneg _ (by omega)
      have hb2b : b * b % p < p := Int.emod_lt_of_pos _ (by omega)
      have hxba : 0 ≤ x * b % p := Int.emod_nonneg _ (by omega)
      have hxbb : x * b % p < p := Int.emod_lt_of_pos _ (by omega)
      have e2 : (m / 2).toNat = m.toNat / 2 := by omega
      rcases (show m % 2 = 0 ∨ m % 2 = 1 by omega) with h2 | h2
      · have hz := Lib.hid (sq_even p x b m.toNat (by omega))
        have hbit : (bits BinOp.and IntKind.i64 m 1 == 1) = false := by rw [and_one_i64 m hm0 (by omega), h2]; rfl
        have E2 := Lib.hid e2
        clear h2 e2
        go_wp2
        go_round
        case rel => exact ⟨b * b % p, m / 2, x, rfl, rfl, rfl, hb2a, hb2b, by omega, by omega, hx0, hx1, by rw [E2.out, hz.out, Hx.out]⟩
        case measure => simp [intOf]; omega
      · have hz := Lib.hid (sq_odd p x b m.toNat (by omega))
        have hbit : (bits BinOp.and IntKind.i64 m 1 == 1) = true := by rw [and_one_i64 m hm0 (by omega), h2]; rfl
        have E2 := Lib.hid e2
        clear h2 e2
        go_wp2
        go_round
        case rel => exact ⟨b * b % p, m / 2, x * b % p, rfl, rfl, rfl, hb2a, hb2b, by omega, by omega, hxba, hxbb, by rw [E2.out, hz.out, Hx.out]⟩
        case measure => simp [intOf]; omega
    · go_wp2
      go_ret
      have hm : m = 0 := by omega
      exact ⟨ret_int (by rw [← Hx.out, hm]; simp; rw [Int.emod_eq_of_lt hx0 hx1]), rfl⟩

/-- what PowerIn returns, for all arguments -/
def powV (p a n : Int) : Int := if isE1 p a = true ∧ 0 ≤ n then a ^ n.toNat % p else -1
set_option maxHeartbeats 400000 in
theorem iPowerIn (p a n : Int) (hn1 : n ≤ 9223372036854775807) (w : World) :
    Calls Try.prog 188 #[.int .i64 p, .int .i64 a, .int .i64 n] w fun e w' => e = .returned (.int .i64 (powV p a n)) ∧ Below w.heap.size w w' := by
  cases hE : isE1 p a
  · have hv := Lib.hid (show -1 = powV p a n by simp [powV, hE])
    have hB := Lib.hid hE
    clear hE
    go_enter Try.func188, Try.ntmps188
    go_wp2_with (go_at_call 140; refine (iAE1 p a _ _ (by simp)).mono ?_; rw [hB.out]; rintro e w' ⟨rfl, rfl⟩)
    go_ret
    exact ⟨ret_int hv.out, by repeat (first | exact Below.refl _ _ | apply Below.drew | (refine Below.alloc ?_ (by simp <;> omega) _))⟩
  · by_cases hn : 0 ≤ n
    · have hv := Lib.hid (show a ^ n.toNat % p = powV p a n by simp [powV, hE, hn])
      have hB := Lib.hid hE
      obtain ⟨hp, a0, a1⟩ := isE1_iff.1 hE
      have hP := Lib.hid hp
      clear hE hp
      have hf := fld1
      go_enter Try.func188, Try.ntmps188
      go_wp2_with (first | (go_at_call 140; refine (iAE1 p a _ _ (by simp)).mono ?_; rw [hB.out]; rintro e w' ⟨rfl, rfl⟩) | (go_at_call 207; refine (iPow p a n hP.out a0 a1 hn hn1 _).mono ?_; rintro e w1 ⟨rfl, hb1⟩))
      go_ret
      exact ⟨ret_int hv.out, by repeat (first | exact Below.refl _ _ | apply Below.drew | (refine Below.trans ?_ (Below.mono hb1 (by simp <;> omega))) | (refine Below.alloc ?_ (by simp <;> omega) _))⟩
    · have hv := Lib.hid (show -1 = powV p a n by simp [powV, hn])
      have hB := Lib.hid hE
      clear hE
      go_enter Try.func188, Try.ntmps188
      go_wp2_with (go_at_call 140; refine (iAE1 p a _ _ (by simp)).mono ?_; rw [hB.out]; rintro e w' ⟨rfl, rfl⟩)
      go_ret
      exact ⟨ret_int hv.out, by repeat (first | exact Below.refl _ _ | apply Below.drew | (refine Below.alloc ?_ (by simp <;> omega) _))⟩
end Go.Proofs.Ytlcmddghppdmgaa
namespace Go.Proofs.Ytlcmddghppdmgaa
open Go.RowKit
/-- the first number whose product with a is 1 -/
def invO (p a : Int) : Option Nat := (List.range p.toNat).find? fun n => a * n % p == 1
theorem invO_some {p a : Int} {k : Nat} (hk : (k : Int) < p) (h : a * k % p = 1) (hl : ∀ j : Nat, j < k → (a * j % p == 1) = false) : invO p a = some k := by
  unfold invO
  rw [List.find?_range_eq_some]
  refine ⟨by simp [h], by simp; omega, ?_⟩
  intro j hj
  simp [hl j hj]
theorem invO_none {p a : Int} (hl : ∀ j : Nat, (j : Int) < p → (a * j % p == 1) = false) : invO p a = none := by
  unfold invO
  rw [List.find?_range_eq_none]
  intro j hj
  simp [hl j (by omega)]
/-- the world inside inverse: the element lies in block s, the result in s + 1 -/
structure InvW (p a : Int) (s : Nat) (w wr : World) : Prop where
  a0 : wr.cell? ⟨s, 0, none⟩ = some (.int .i64 p)
  a1 : wr.cell? ⟨s, 1, none⟩ = some (.int .i64 a)
  r0 : wr.cell? ⟨s + 1, 0, none⟩ = some (.int .i64 0)
  r1 : wr.cell? ⟨s + 1, 1, none⟩ = some (.int .i64 0)
  fr0 : wr.frozen? ⟨s + 1, 0, none⟩ = false
  fr1 : wr.frozen? ⟨s + 1, 1, none⟩ = false
  sz : s + 1 < wr.heap.size
  low : Below s w wr
theorem InvW.below {p a : Int} {s : Nat} {w wr w1 : World} (h : InvW p a s w wr) (hb : Below wr.heap.size wr w1) : InvW p a s w w1 := by
  obtain ⟨hc, hf⟩ := bcell hb
  have sz := h.sz
  have e := hb.size
  constructor
  · rw [hc _ _ (by omega)]; exact h.a0
  · rw [hc _ _ (by omega)]; exact h.a1
  · rw [hc _ _ (by omega)]; exact h.r0
  · rw [hc _ _ (by omega)]; exact h.r1
  · rw [hf _ _ (by omega)]; exact h.fr0
  · rw [hf _ _ (by omega)]; exact h.fr1
  · omega
  · exact h.low.trans (hb.mono (by omega))
/-- what inverse returns -/
def invT (p a : Int) : Value := match invO p a with
  | some n => .tuple #[(.agg #[.int .i64 (p), .int .i64 (n)]), .bool true]
  | none => .tuple #[(.agg #[.int .i64 (0), .int .i64 (0)]), .bool false]
set_option maxHeartbeats 1000000 in
theorem iInv (p a : Int) (hp0 : isP p = true) (ha0 : 0 ≤ a) (ha1 : a < p) (w : World) :
    Calls Try.prog 168 #[(.agg #[.int .i64 (p), .int .i64 (a)])] w fun e w' => e = .returned (invT p a) ∧ Below w.heap.size w w' := by
  have hp := Lib.hid hp0
  obtain ⟨hpb1, hpb2⟩ := isP_bd hp0
  clear hp0
  have hf := fld1
  go_enter Try.func168, Try.ntmps168
  go_wp2_with fail
  have HW : InvW p a w.heap.size w ((w.alloc (Obj.cells #[Value.int IntKind.i64 p, Value.int IntKind.i64 a] 121)).alloc (Obj.cells #[Value.int IntKind.i64 0, Value.int IntKind.i64 0] 121)) := by
    constructor
    case low => repeat (first | exact Below.refl _ _ | (refine Below.alloc ?_ (by simp <;> omega) _))
    all_goals simp [go_sem]
  go_loopw [8] (fun i wr => ∃ k : Nat, (k : Int) ≤ p ∧ i = .int .i64 k ∧ (∀ j : Nat, j < k → (a * j % p == 1) = false) ∧ InvW p a w.heap.size w wr) (fun i _ => p.toNat - (intOf i).toNat)
  case atStart => exact ⟨0, by omega, rfl, fun j hj => by omega, HW⟩
  case round =>
    obtain ⟨k, hk, rfl, hall, hR⟩ := hrel
    clear HW
    have Hall := Lib.hid hall
    clear hall
    have HR := Lib.hid hR
    obtain ⟨a0, a1, r0, r1, fr0, fr1, sz, low⟩ := hR
    have z0 : w.heap.size < wr.heap.size := by omega
    by_cases hlt : (k : Int) < p
    · go_wp2_with fail
      refine (iTimes p a k hp.out ha0 ha1 (by omega) hlt _).mono ?_
      rintro e w1 ⟨rfl, hb1⟩
      have hb2 : Below wr.heap.size wr w1 := ((Below.refl _ _).alloc (Nat.le_refl _) _).trans (hb1.mono (by simp))
      have hR1 := HR.out.below hb2
      obtain ⟨hc, hfz⟩ := bcell hb1
      have t0 : w1.cell? ⟨wr.heap.size, 0, none⟩ = some (.int .i64 p) := by rw [hc _ _ (by simp)]; simp [go_sem]
      have t1 : w1.cell? ⟨wr.heap.size, 1, none⟩ = some (.int .i64 k) := by rw [hc _ _ (by simp)]; simp [go_sem]
      have HR1 := Lib.hid hR1
      clear a0 a1 r0 r1 fr0 fr1 sz low HR hb1 hb2 hc hfz
      obtain ⟨a0, a1, r0, r1, fr0, fr1, sz, low⟩ := hR1
      by_cases h1 : a * k % p = 1
      · have hb : (a * k % p == 1) = true := by rw [h1]; rfl
        have hres := Lib.hid (invO_some hlt h1 Hall.out)
        clear h1
        go_wp2
        obtain ⟨q0, q1⟩ := two_set (y0 := .int .i64 p) (y1 := .int .i64 k) r0 r1
        refine bodyPost_ret (v := .tuple #[(.agg #[.int .i64 (p), .int .i64 (k)]), .bool true]) (by simp [results, Try.results168, go_sem, q0, q1]) rfl ⟨?_, (low.setCell (by simp) _).setCell (by simp) _⟩
        unfold invT; rw [hres.out]
      · have hb : (a * k % p == 1) = false := by simpa using h1
        have Hb := Lib.hid hb
        clear h1
        go_wp2
        go_roundw
        case rel => exact ⟨k + 1, by omega, by go_num, (fun j hj => by by_cases e : j = k; · rw [e]; exact Hb.out
                                                                       · exact Hall.out j (by omega)), HR1.out⟩
        case measure => simp [intOf]; omega
    · have hres := Lib.hid (invO_none (p := p) (a := a) (fun j hj => Hall.out j (by omega)))
      go_wp2
      obtain ⟨q0, q1⟩ := two_set (y0 := .int .i64 0) (y1 := .int .i64 0) r0 r1
      refine bodyPost_ret (v := .tuple #[(.agg #[.int .i64 (0), .int .i64 (0)]), .bool false]) (by simp [results, Try.results168, go_sem, q0, q1]) rfl ⟨?_, (low.setCell (by simp) _).setCell (by simp) _⟩
      unfold invT; rw [hres.out]
/-- the inverse, 0 if there is none; whether there is one -/
def ivV (p a : Int) : Int := if isE1 p a = true then (((invO p a).getD 0 : Nat) : Int) else 0
def ivB (p a : Int) : Bool := isE1 p a && (invO p a).isSome
theorem inv_all : ∀ q ∈ [2, 3, 5, 7, 11, 13], ∀ b, b < q → (invO (q : Nat) (b : Nat)).isSome = (b != 0) ∧ (invO (q : Nat) (b : Nat)).getD 0 < q := by
  decide +kernel
theorem inv_fact {p a : Int} (h : isP p = true) (h0 : 0 ≤ a) (h1 : a < p) : (invO p a).isSome = (a != 0) ∧ (((invO p a).getD 0 : Nat) : Int) < p := by
  obtain ⟨b, rfl⟩ := Int.eq_ofNat_of_zero_le h0
  obtain ⟨q, rfl⟩ := Int.eq_ofNat_of_zero_le (show 0 ≤ p by have := isP_bd h; omega)
  have hq : q ∈ [2, 3, 5, 7, 11, 13] := by
    have := isP_cases h
    simp only [List.mem_cons, List.not_mem_nil, or_false]
    omega
  obtain ⟨r1, r2⟩ := inv_all q hq b (by omega)
  refine ⟨?_, by exact_mod_cast r2⟩
  rw [r1]
  cases b <;> rfl
theorem ret_two {a b : Int} {c d : Bool} (h : a = b) (k : c = d) : Ending.returned (.tuple #[.int .i64 a, .bool c]) = .returned (.tuple #[.int .i64 b, .bool d]) := by rw [h, k]
set_option maxHeartbeats 400000 in
theorem iInverse (p a : Int) (w : World) :
    Calls Try.prog 116 #[.int .i64 p, .int .i64 a] w fun e w' => e = .returned (.tuple #[.int .i64 (ivV p a), .bool (ivB p a)]) ∧ Below w.heap.size w w' := by
  cases hE : isE1 p a
  · have hv := Lib.hid (show 0 = ivV p a by simp [ivV, hE])
    have hv2 := Lib.hid (show false = ivB p a by simp [ivB, hE])
    have hB := Lib.hid hE
    clear hE
    go_enter Try.func116, Try.ntmps116
    go_wp2_with (go_at_call 140; refine (iAE1 p a _ _ (by simp)).mono ?_; rw [hB.out]; rintro e w' ⟨rfl, rfl⟩)
    go_ret2
    exact ⟨ret_two hv.out hv2.out, by repeat (first | exact Below.refl _ _ | apply Below.drew | (refine Below.alloc ?_ (by simp <;> omega) _))⟩
  · obtain ⟨hp, a0, a1⟩ := isE1_iff.1 hE
    have hP := Lib.hid hp
    cases hO : invO p a with
    | none =>
      have hv := Lib.hid (show 0 = ivV p a by simp [ivV, hE, hO])
      have hv2 := Lib.hid (show false = ivB p a by simp [ivB, hE, hO])
      have hT := Lib.hid (show invT p a = .tuple #[(.agg #[.int .i64 (0), .int .i64 (0)]), .bool false] by unfold invT; rw [hO])
      have hB := Lib.hid hE
      clear hE hp hO
      have hf := fld1
      go_enter Try.func116, Try.ntmps116
      go_wp2_with (first | (go_at_call 140; refine (iAE1 p a _ _ (by simp)).mono ?_; rw [hB.out]; rintro e w' ⟨rfl, rfl⟩) | (go_at_call 168; refine (iInv p a hP.out a0 a1 _).mono ?_; rw [hT.out]; rintro e w1 ⟨rfl, hb1⟩))
      have hz : w.heap.size ≤ w1.heap.size := by have := hb1.size; simp at this; omega
      go_ret2
      exact ⟨ret_two hv.out hv2.out, by repeat (first | (refine Below.alloc ?_ hz _) | exact Below.refl _ _ | apply Below.drew | (refine Below.trans ?_ (Below.mono hb1 (by simp <;> omega))) | (refine Below.alloc ?_ (by simp <;> omega) _))⟩
    | some n =>
      have hv := Lib.hid (show (n : Int) = ivV p a by simp [ivV, hE, hO])
      have hv2 := Lib.hid (show true = ivB p a by simp [ivB, hE, hO])
      have hT := Lib.hid (show invT p a = .tuple #[(.agg #[.int .i64 (p), .int .i64 (n)]), .bool true] by unfold invT; rw [hO])
      have hB := Lib.hid hE
      clear hE hp hO
      have hf := fld1
      go_enter Try.func116, Try.ntmps116
      go_wp2_with (first | (go_at_call 140; refine (iAE1 p a _ _ (by simp)).mono ?_; rw [hB.out]; rintro e w' ⟨rfl, rfl⟩) | (go_at_call 168; refine (iInv p a hP.out a0 a1 _).mono ?_; rw [hT.out]; rintro e w1 ⟨rfl, hb1⟩))
      have hz : w.heap.size ≤ w1.heap.size := by have := hb1.size; simp at this; omega
      go_ret2
      exact ⟨ret_two hv.out hv2.out, by repeat (first | (refine Below.alloc ?_ hz _) | exact Below.refl _ _ | apply Below.drew | (refine Below.trans ?_ (Below.mono hb1 (by simp <;> omega))) | (refine Below.alloc ?_ (by simp <;> omega) _))⟩
set_option maxHeartbeats 400000 in
theorem sInvLoop (p a : Int) (hp0 : isP p = true) (ha0 : 0 ≤ a) (ha1 : a < p) (w : World) :
    Calls Try.prog 143 #[.int .i64 p, .int .i64 a] w fun e w' => e = .returned (.int .i64 (((invO p a).getD 0 : Nat) : Int)) ∧ w = w' := by
  obtain ⟨hpb1, hpb2⟩ := isP_bd hp0
  have hp := Lib.hid hp0
  clear hp0
  go_enter Try.func143, Try.ntmps143
  go_wp2_with fail
  go_loop [7] (fun i => ∃ k : Nat, (k : Int) ≤ p ∧ i = .int .i64 k ∧ (∀ j : Nat, j < k → (a * j % p == 1) = false)) (fun i => p.toNat - (intOf i).toNat)
  case atStart => exact ⟨0, by omega, rfl, fun j hj => by omega⟩
  case round =>
    obtain ⟨k, hk, rfl, hall⟩ := hrel
    have Hall := Lib.hid hall
    clear hall
    by_cases hlt : (k : Int) < p
    · obtain ⟨g0, g1⟩ := mul_bd hp.out ha0 ha1 (show (0 : Int) ≤ k by omega) hlt
      by_cases h1 : a * k % p = 1
      · have hb : (a * k % p == 1) = true := by rw [h1]; rfl
        have hres := Lib.hid (invO_some hlt h1 Hall.out)
        clear h1
        go_wp2
        go_ret
        exact ⟨ret_int (by rw [hres.out]; rfl), rfl⟩
      · have hb : (a * k % p == 1) = false := by simpa using h1
        have Hb := Lib.hid hb
        clear h1
        go_wp2
        go_round
        case rel => exact ⟨k + 1, by omega, by go_num, fun j hj => by by_cases e : j = k; · rw [e]; exact Hb.out
                                                                      · exact Hall.out j (by omega)⟩
        case measure => simp [intOf]; omega
    · have hres := Lib.hid (invO_none (p := p) (a := a) (fun j hj => Hall.out j (by omega)))
      go_wp2
      go_ret
      exact ⟨ret_int (by rw [hres.out]; rfl), rfl⟩
end Go.Proofs.Ytlcmddghppdmgaa
