/-
  Contracts of the element's power, of the program. Conditions: the element's numbers lie in the field of a prime, the exponent is not negative.
-/
import Derived.Test.YtlcmddghppdmgaaBe15
namespace Go.Proofs.Ytlcmddghppdmgaa
open Go.RowKit
theorem pow_step (p a : Int) (k : Nat) : a ^ k % p * a % p = a ^ (k + 1) % p := by
  rw [Int.pow_succ, Int.mul_emod (a ^ k % p) a p, Int.emod_emod_of_dvd _ (Int.dvd_refl p), ← Int.mul_emod]
theorem bcell {W w1 : World} {B : Nat} (hb : Below B W w1) : (∀ b o, b < B → w1.cell? ⟨b, o, none⟩ = W.cell? ⟨b, o, none⟩) ∧ (∀ b o, b < B → w1.frozen? ⟨b, o, none⟩ = W.frozen? ⟨b, o, none⟩) :=
  ⟨fun b o h => hb.cell (p := ⟨b, o, none⟩) h, fun b o h => hb.frozen (p := ⟨b, o, none⟩) h⟩
/-- the world inside power: the element lies in block s, the result in s + 1, the product in s + 2 -/
structure PowW (p a x : Int) (s : Nat) (w wr : World) : Prop where
  a0 : wr.cell? ⟨s, 0, none⟩ = some (.int .i64 p)
  a1 : wr.cell? ⟨s, 1, none⟩ = some (.int .i64 a)
  r0 : wr.cell? ⟨s + 1, 0, none⟩ = some (.int .i64 0)
  r1 : wr.cell? ⟨s + 1, 1, none⟩ = some (.int .i64 0)
  x0 : wr.cell? ⟨s + 1 + 1, 0, none⟩ = some (.int .i64 p)
  x1 : wr.cell? ⟨s + 1 + 1, 1, none⟩ = some (.int .i64 x)
  fr0 : wr.frozen? ⟨s + 1, 0, none⟩ = false
  fr1 : wr.frozen? ⟨s + 1, 1, none⟩ = false
  fx0 : wr.frozen? ⟨s + 1 + 1, 0, none⟩ = false
  fx1 : wr.frozen? ⟨s + 1 + 1, 1, none⟩ = false
  sz : s + 1 + 1 < wr.heap.size
  low : Below s w wr
theorem PowW.below {p a x : Int} {s : Nat} {w wr w1 : World} (h : PowW p a x s w wr) (hb : Below wr.heap.size wr w1) : PowW p a x s w w1 := by
  obtain ⟨hc, hf⟩ := bcell hb
  have sz := h.sz
  have e := hb.size
  constructor
  · rw [hc _ _ (by omega)]; exact h.a0
  · rw [hc _ _ (by omega)]; exact h.a1
  · rw [hc _ _ (by omega)]; exact h.r0
  · rw [hc _ _ (by omega)]; exact h.r1
  · rw [hc _ _ (by omega)]; exact h.x0
  · rw [hc _ _ (by omega)]; exact h.x1
  · rw [hf _ _ (by omega)]; exact h.fr0
  · rw [hf _ _ (by omega)]; exact h.fr1
  · rw [hf _ _ (by omega)]; exact h.fx0
  · rw [hf _ _ (by omega)]; exact h.fx1
  · omega
  · exact h.low.trans (hb.mono (by omega))
theorem two_set {w1 : World} {b : Nat} {x0 x1 y0 y1 : Value} (h0 : w1.cell? ⟨b, 0, none⟩ = some x0) (h1 : w1.cell? ⟨b, 1, none⟩ = some x1) :
    ((w1.setCell ⟨b, 0, none⟩ y0).setCell ⟨b, 1, none⟩ y1).cell? ⟨b, 0, none⟩ = some y0 ∧ ((w1.setCell ⟨b, 0, none⟩ y0).setCell ⟨b, 1, none⟩ y1).cell? ⟨b, 1, none⟩ = some y1 := by
  refine ⟨?_, ?_⟩
  · rw [World.cell?_setCell_other _ _ _ _ (by simp)]; exact World.cell?_setCell_same _ _ _ h0
  · exact World.cell?_setCell_same _ _ _ (by rw [World.cell?_setCell_other _ _ _ _ (by simp)]; exact h1)
theorem PowW.set {p a x : Int} {s : Nat} {w w1 : World} (y : Int) (h : PowW p a x s w w1) (hs : s = w.heap.size) :
    PowW p a y s w ((w1.setCell ⟨s + 1 + 1, 0, none⟩ (.int .i64 p)).setCell ⟨s + 1 + 1, 1, none⟩ (.int .i64 y)) := by
  obtain ⟨a0, a1, r0, r1, x0, x1, fr0, fr1, fx0, fx1, sz, low⟩ := h
  have n0 : ∀ (v : Value) (W : World) (o o' b : Nat), b < s + 1 + 1 → (W.setCell ⟨s + 1 + 1, o, none⟩ v).cell? ⟨b, o', none⟩ = W.cell? ⟨b, o', none⟩ := by
    intro v W o o' b hb
    exact World.cell?_setCell_far _ _ _ _ (by simp; omega)
  have n1 : ∀ (v : Value) (W : World), (W.setCell ⟨s + 1 + 1, 1, none⟩ v).cell? ⟨s + 1 + 1, 0, none⟩ = W.cell? ⟨s + 1 + 1, 0, none⟩ := fun v W => World.cell?_setCell_other _ _ _ _ (by simp)
  have n2 : ∀ (v : Value) (W : World), (W.setCell ⟨s + 1 + 1, 0, none⟩ v).cell? ⟨s + 1 + 1, 1, none⟩ = W.cell? ⟨s + 1 + 1, 1, none⟩ := fun v W => World.cell?_setCell_other _ _ _ _ (by simp)
  constructor
  · rw [n0 _ _ _ _ _ (by omega), n0 _ _ _ _ _ (by omega)]; exact a0
  · rw [n0 _ _ _ _ _ (by omega), n0 _ _ _ _ _ (by omega)]; exact a1
  · rw [n0 _ _ _ _ _ (by omega), n0 _ _ _ _ _ (by omega)]; exact r0
  · rw [n0 _ _ _ _ _ (by omega), n0 _ _ _ _ _ (by omega)]; exact r1
  · rw [n1]; exact World.cell?_setCell_same _ _ _ x0
  · exact World.cell?_setCell_same _ _ _ (by rw [n2]; exact x1)
  · simpa using fr0
  · simpa using fr1
  · simpa using fx0
  · simpa using fx1
  · simpa using sz
  · exact (low.setCell (by simp; omega) _).setCell (by simp; omega) _
set_option maxHeartbeats 1000000 in
theorem iPowLoop (p a : Int) (n : Nat) (hp0 : isP p = true) (ha0 : 0 ≤ a) (ha1 : a < p) (hn : (n : Int) ≤ p - 1) (w : World) :
    Calls Try.prog 207 #[(.agg #[.int .i64 (p), .int .i64 (a)]), .int .i64 n] w fun e w' => e = .returned ((.agg #[.int .i64 (p), .int .i64 (a ^ n % p)])) ∧ Below w.heap.size w w' := by
  have hp := Lib.hid hp0
  obtain ⟨hpb1, hpb2⟩ := isP_bd hp0
  clear hp0
  have hd : decide (p - 1 < (n : Int)) = false := by simp; omega
  have h1p : (1 : Int) = a ^ 0 % p := by rw [Int.pow_zero, Int.emod_eq_of_lt (by omega) (by omega)]
  have H1p := Lib.hid h1p
  clear h1p
  go_enter Try.func207, Try.ntmps207
  go_wp2_with fail
  have HW : PowW p a 1 w.heap.size w (((w.alloc (Obj.cells #[Value.int IntKind.i64 p, Value.int IntKind.i64 a] 121)).alloc (Obj.cells #[Value.int IntKind.i64 0, Value.int IntKind.i64 0] 121)).alloc (Obj.cells #[Value.int IntKind.i64 p, Value.int IntKind.i64 1] 121)) := by
    constructor
    case low => repeat (first | exact Below.refl _ _ | (refine Below.alloc ?_ (by simp <;> omega) _))
    all_goals simp [go_sem]
  go_loopw [22] (fun i wr => ∃ k : Nat, k ≤ n ∧ i = .int .i64 k ∧ PowW p a (a ^ k % p) w.heap.size w wr) (fun i _ => n - (intOf i).toNat)
  case atStart => exact ⟨0, Nat.zero_le _, rfl, by rw [← H1p.out]; exact HW⟩
  case round =>
    obtain ⟨k, hk, rfl, hR⟩ := hrel
    clear HW
    have hx0 : 0 ≤ a ^ k % p := Int.emod_nonneg _ (by omega)
    have hx1 : a ^ k % p < p := Int.emod_lt_of_pos _ (by omega)
    have hst := Lib.hid (pow_step p a k)
    obtain ⟨x, hx⟩ : ∃ x, x = a ^ k % p := ⟨_, rfl⟩
    rw [← hx] at hR hx0 hx1 hst
    have Hx := Lib.hid hx
    clear hx
    have HR := Lib.hid hR
    obtain ⟨a0, a1, r0, r1, x0, x1, fr0, fr1, fx0, fx1, sz, low⟩ := hR
    by_cases hlt : k < n
    · go_wp2_with fail
      refine (iTimes p x a hp.out hx0 hx1 ha0 ha1 _).mono ?_
      rintro e w1 ⟨rfl, hb1⟩
      have hR1 := HR.out.below hb1
      have HS := Lib.hid (hR1.set (x * a % p) rfl)
      clear a0 a1 r0 r1 x0 x1 fr0 fr1 fx0 fx1 sz low HR hb1
      obtain ⟨a0, a1, r0, r1, x0, x1, fr0, fr1, fx0, fx1, sz, low⟩ := hR1
      go_wp2
      go_roundw
      case rel => exact ⟨k + 1, by omega, by go_num, by rw [← hst.out]; exact HS.out⟩
      case measure => simp [intOf]; omega
    · go_wp2
      obtain ⟨q0, q1⟩ := two_set (y0 := .int .i64 p) (y1 := .int .i64 x) r0 r1
      refine bodyPost_ret (v := (.agg #[.int .i64 (p), .int .i64 (x)])) (by simp [results, Try.results207, go_sem, q0, q1]) rfl ⟨?_, (low.setCell (by simp) _).setCell (by simp) _⟩
      have hkn : k = n := by omega
      rw [Hx.out, hkn]
set_option maxHeartbeats 1000000 in
theorem iPowBig (p a n : Int) (m : Nat) (hp0 : isP p = true) (ha0 : 0 ≤ a) (ha1 : a < p) (hn : p - 1 < n) (hm0 : (m : Int) = n % (p - 1) + (p - 1)) (w : World) :
    Calls Try.prog 207 #[(.agg #[.int .i64 (p), .int .i64 (a)]), .int .i64 n] w fun e w' => e = .returned ((.agg #[.int .i64 (p), .int .i64 (a ^ m % p)])) ∧ Below w.heap.size w w' := by
  have hp := Lib.hid hp0
  obtain ⟨hpb1, hpb2⟩ := isP_bd hp0
  clear hp0
  have hd : decide (p - 1 < n) = true := by simp; omega
  have hq0 : 0 ≤ n % (p - 1) := Int.emod_nonneg _ (by omega)
  have hq1 : n % (p - 1) < p - 1 := Int.emod_lt_of_pos _ (by omega)
  have Hm := Lib.hid hm0
  clear hm0
  have h1p : (1 : Int) = a ^ 0 % p := by rw [Int.pow_zero, Int.emod_eq_of_lt (by omega) (by omega)]
  have H1p := Lib.hid h1p
  clear h1p
  go_enter Try.func207, Try.ntmps207
  go_wp2_with fail
  rw [← Hm.out]
  clear hq0 hq1
  have hmm : (m : Int) ≤ 1000 := by
    have h1 := Hm.out
    have h2 : n % (p - 1) < p - 1 := Int.emod_lt_of_pos _ (by omega)
    omega
  have HW : PowW p a 1 w.heap.size w (((w.alloc (Obj.cells #[Value.int IntKind.i64 p, Value.int IntKind.i64 a] 121)).alloc (Obj.cells #[Value.int IntKind.i64 0, Value.int IntKind.i64 0] 121)).alloc (Obj.cells #[Value.int IntKind.i64 p, Value.int IntKind.i64 1] 121)) := by
    constructor
    case low => repeat (first | exact Below.refl _ _ | (refine Below.alloc ?_ (by simp <;> omega) _))
    all_goals simp [go_sem]
  go_loopw [22] (fun i wr => ∃ k : Nat, k ≤ m ∧ i = .int .i64 k ∧ PowW p a (a ^ k % p) w.heap.size w wr) (fun i _ => m - (intOf i).toNat)
  case atStart => exact ⟨0, Nat.zero_le _, rfl, by rw [← H1p.out]; exact HW⟩
  case round =>
    obtain ⟨k, hk, rfl, hR⟩ := hrel
    clear HW
    have hx0 : 0 ≤ a ^ k % p := Int.emod_nonneg _ (by omega)
    have hx1 : a ^ k % p < p := Int.emod_lt_of_pos _ (by omega)
    have hst := Lib.hid (pow_step p a k)
    obtain ⟨x, hx⟩ : ∃ x, x = a ^ k % p := ⟨_, rfl⟩
    rw [← hx] at hR hx0 hx1 hst
    have Hx := Lib.hid hx
    clear hx
    have HR := Lib.hid hR
    obtain ⟨a0, a1, r0, r1, x0, x1, fr0, fr1, fx0, fx1, sz, low⟩ := hR
    by_cases hlt : k < m
    · go_wp2_with fail
      refine (iTimes p x a hp.out hx0 hx1 ha0 ha1 _).mono ?_
      rintro e w1 ⟨rfl, hb1⟩
      have hR1 := HR.out.below hb1
      have HS := Lib.hid (hR1.set (x * a % p) rfl)
      clear a0 a1 r0 r1 x0 x1 fr0 fr1 fx0 fx1 sz low HR hb1
      obtain ⟨a0, a1, r0, r1, x0, x1, fr0, fr1, fx0, fx1, sz, low⟩ := hR1
      go_wp2
      go_roundw
      case rel => exact ⟨k + 1, by omega, by go_num, by rw [← hst.out]; exact HS.out⟩
      case measure => simp [intOf]; omega
    · go_wp2
      obtain ⟨q0, q1⟩ := two_set (y0 := .int .i64 p) (y1 := .int .i64 x) r0 r1
      refine bodyPost_ret (v := (.agg #[.int .i64 (p), .int .i64 (x)])) (by simp [results, Try.results207, go_sem, q0, q1]) rfl ⟨?_, (low.setCell (by simp) _).setCell (by simp) _⟩
      have hkn : k = m := by omega
      rw [Hx.out, hkn]

theorem pow_shift (p a : Int) (h : isP p = true) (h0 : 0 ≤ a) (h1 : a < p) (k : Nat) : a ^ (k + 1 + (p - 1).toNat) % p = a ^ (k + 1) % p := by
  have fermat : a ^ (p.toNat) % p = a % p := by
    have key : ∀ q ∈ [2, 3, 5, 7, 11, 13], ∀ b, b < q → (b ^ q) % q = b % q := by decide +kernel
    obtain ⟨b, rfl⟩ := Int.eq_ofNat_of_zero_le h0
    obtain ⟨q, rfl⟩ := Int.eq_ofNat_of_zero_le (show 0 ≤ p by have := isP_bd h; omega)
    have hq : q ∈ [2, 3, 5, 7, 11, 13] := by
      have := isP_cases h
      simp only [List.mem_cons, List.not_mem_nil, or_false]
      omega
    have := key q hq b (by omega)
    rw [Int.toNat_natCast]
    exact_mod_cast this
  have hp := isP_bd h
  have e : k + 1 + (p - 1).toNat = k + p.toNat := by omega
  rw [e, Int.pow_add, Int.mul_emod, fermat, ← Int.mul_emod, ← Int.pow_succ]
theorem pow_shifts (p a : Int) (h : isP p = true) (h0 : 0 ≤ a) (h1 : a < p) (k t : Nat) : a ^ (k + 1 + t * (p - 1).toNat) % p = a ^ (k + 1) % p := by
  induction t with
  | zero => simp
  | succ t ih =>
    have e : k + 1 + (t + 1) * (p - 1).toNat = (k + t * (p - 1).toNat) + 1 + (p - 1).toNat := by rw [Nat.succ_mul]; omega
    rw [e, pow_shift p a h h0 h1, ← ih]
    congr 2; omega
theorem pow_less (p a n : Int) (m : Nat) (h : isP p = true) (h0 : 0 ≤ a) (h1 : a < p) (hn : p - 1 < n) (hm : (m : Int) = n % (p - 1) + (p - 1)) : a ^ m % p = a ^ n.toNat % p := by
  have hp := isP_bd h
  have hq0 : 0 ≤ n % (p - 1) := Int.emod_nonneg _ (by omega)
  have hdm := Int.mul_ediv_add_emod n (p - 1)
  have hd1 : 1 ≤ n / (p - 1) := (Int.le_ediv_iff_mul_le (by omega)).2 (by omega)
  obtain ⟨t, ht⟩ := Int.eq_ofNat_of_zero_le (show 0 ≤ n / (p - 1) - 1 by omega)
  obtain ⟨k, hk⟩ : ∃ k : Nat, m = k + 1 := ⟨m - 1, by omega⟩
  have e : n.toNat = k + 1 + t * (p - 1).toNat := by
    have e2 : n / (p - 1) = t + 1 := by omega
    rw [e2] at hdm
    have e3 : (((p - 1).toNat : Nat) : Int) = p - 1 := by omega
    have e4 : (n.toNat : Int) = ((k + 1 + t * (p - 1).toNat : Nat) : Int) := by
      rw [Int.natCast_add, Int.natCast_mul, e3, Int.toNat_of_nonneg (by omega), ← hk, hm]
      rw [Int.mul_add, Int.mul_one, Int.mul_comm (p - 1) (t : Int)] at hdm
      omega
    exact_mod_cast e4
  rw [e, pow_shifts p a h h0 h1, hk]
theorem iPow (p a n : Int) (hp : isP p = true) (ha0 : 0 ≤ a) (ha1 : a < p) (hn : 0 ≤ n) (hn1 : n ≤ 9223372036854775807) (w : World) :
    Calls Try.prog 207 #[(.agg #[.int .i64 (p), .int .i64 (a)]), .int .i64 n] w fun e w' => e = .returned ((.agg #[.int .i64 (p), .int .i64 (a ^ n.toNat % p)])) ∧ Below w.heap.size w w' := by
  by_cases h : n ≤ p - 1
  · obtain ⟨k, rfl⟩ := Int.eq_ofNat_of_zero_le hn
    exact iPowLoop p a k hp ha0 ha1 h w
  · have hb := isP_bd hp
    have hq0 : 0 ≤ n % (p - 1) := Int.emod_nonneg _ (by omega)
    obtain ⟨m, hm⟩ := Int.eq_ofNat_of_zero_le (show 0 ≤ n % (p - 1) + (p - 1) by omega)
    rw [← pow_less p a n m hp ha0 ha1 (by omega) hm.symm]
    exact iPowBig p a n m hp ha0 ha1 (by omega) hm.symm w
end Go.Proofs.Ytlcmddghppdmgaa
