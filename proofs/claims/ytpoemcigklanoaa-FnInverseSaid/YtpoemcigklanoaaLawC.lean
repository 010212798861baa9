/-
  The walk of the law FnInverse: it returns true. Conditions: the bytes can be read.
-/
import Derived.Test.YtpoemcigklanoaaDrw2
import Derived.Test.YtpoemcigklanoaaFldLaw
import Derived.Test.YtpoemcigklanoaaFldH
namespace Go.Proofs.Ytpoemcigklanoaa
open Go.RowKit
theorem inv_laws : ∀ q ∈ [2, 3, 5, 7, 11, 13], ∀ a, a < q → a ≠ 0 →
    (a * (invO (q : Nat) (a : Nat)).getD 0 % q = 1 ∧ (invO (q : Nat) (a : Nat)).getD 0 < q ∧ (invO (q : Nat) ((invO (q : Nat) (a : Nat)).getD 0 : Nat)) = some a ∧ a ^ (q - 2) % q = (invO (q : Nat) (a : Nat)).getD 0) := by
  decide +kernel
theorem inv_law {p a : Int} (h : ivB p a = true) :
    (mulV p a (ivV p a) == 1) = true ∧ ivB p (ivV p a) = true ∧ (ivV p (ivV p a) == a) = true ∧ (powV p a (p - 2) == ivV p a) = true ∧ isP p = true := by
  unfold ivB at h
  rw [Bool.and_eq_true] at h
  obtain ⟨hE, hS⟩ := h
  obtain ⟨hp, a0, a1⟩ := isE1_iff.1 hE
  have ha : a ≠ 0 := by
    have f := (inv_fact hp a0 a1).1
    rw [hS] at f
    simpa using f.symm
  have hb := isP_bd hp
  have hv : ivV p a = (((invO p a).getD 0 : Nat) : Int) := by simp [ivV, hE]
  obtain ⟨x, rfl⟩ := Int.eq_ofNat_of_zero_le a0
  obtain ⟨q, rfl⟩ := Int.eq_ofNat_of_zero_le (show 0 ≤ p by omega)
  have hq : q ∈ [2, 3, 5, 7, 11, 13] := by
    have := isP_cases hp
    simp only [List.mem_cons, List.not_mem_nil, or_false]
    omega
  obtain ⟨r1, r2, r3, r4⟩ := inv_laws q hq x (by omega) (by omega)
  rw [hv]
  generalize (invO (q : Nat) (x : Nat)).getD 0 = b at *
  have hE2 : isE1 (q : Int) (b : Int) = true := isE1_iff.2 ⟨hp, by omega, by omega⟩
  refine ⟨?_, ?_, ?_, ?_, hp⟩
  · rw [mulV_eq hp (by omega) (by omega) (by omega) (by omega)]
    have : (x : Int) * (b : Int) % (q : Int) = ((x * b % q : Nat) : Int) := by simp
    rw [this, r1]; rfl
  · unfold ivB; rw [hE2, r3]; rfl
  · unfold ivV; rw [if_pos hE2, r3]; simp
  · unfold powV
    rw [if_pos ⟨hE, by omega⟩]
    have e1 : ((q : Int) - 2).toNat = q - 2 := by omega
    have e2 : (x : Int) ^ (q - 2) % (q : Int) = ((x ^ (q - 2) % q : Nat) : Int) := by simp
    rw [e1, e2, r4]; simp
theorem inv_none {p a : Int} (h : ivB p a = false) : (ivV p a == 0) = true ∧ (isP p = false ∨ (isP p = true ∧ a ≤ 0) ∨ (isP p = true ∧ 0 < a ∧ p ≤ a)) := by
  unfold ivB at h
  cases hE : isE1 p a
  · refine ⟨by simp [ivV, hE], ?_⟩
    cases hp : isP p
    · exact .inl rfl
    · right
      have : ¬ (0 ≤ a ∧ a < p) := fun e => by rw [isE1_iff.2 ⟨hp, e⟩] at hE; cases hE
      by_cases h0 : a ≤ 0
      · exact .inl ⟨rfl, h0⟩
      · exact .inr ⟨rfl, by omega, by omega⟩
  · rw [hE, Bool.true_and] at h
    obtain ⟨hp, a0, a1⟩ := isE1_iff.1 hE
    have f := (inv_fact hp a0 a1).1
    rw [h] at f
    have ha : a = 0 := by simpa using f.symm
    have hn : invO p a = none := by simpa using h
    exact ⟨by simp [ivV, hn], .inr (.inl ⟨hp, by omega⟩)⟩
set_option maxRecDepth 100000 in
set_option maxHeartbeats 4000000 in
theorem wInverse_no (a : Option Addr) (len cap : Nat) (w : World) (h : ByteRow w a len cap) (hl : len ≤ 1048576) :
    Calls Try.prog 5 #[.slice a len cap] w fun e w' => e = .returned (.bool true) ∧ Below w.heap.size w w' := by
  have hh := Lib.hid h
  clear h
  go_enter Try.func5, Try.ntmps5
  go_wp2_with fail
  refine (drawInverseIn a len cap w hh.out).mono ?_
  rintro e w0 ⟨p, x, rfl, hp, hx, hb⟩
  cases hB : ivB p x
  · obtain ⟨v0, hcase⟩ := inv_none hB
    have HB := Lib.hid hB
    rcases hcase with hP | ⟨hP, h1⟩ | ⟨hP, h1, h2⟩
    all_goals
      have HP := Lib.hid hP
      clear hP
      go_wp2_with (first
        | (go_at_call 33; refine (iInverse _ _ _).mono ?_; rintro e w1 ⟨rfl, hb1⟩; replace hb := hb.trans (hb1.mono hb.size); clear hb1)
        | (go_at_call 34; refine (sInverse _ _ _).mono ?_; rintro e w1 ⟨rfl, hb1⟩; replace hb := hb.trans (hb1.mono hb.size); clear hb1)
        | (go_at_call 24; refine (iPV _ _).mono ?_; rw [HP.out]; rintro e w1 ⟨rfl, rfl⟩))
      go_ret
      exact ⟨rfl, hb⟩
  · obtain ⟨t1, t2, t3, t4, hP⟩ := inv_law hB
    obtain ⟨p0, p1⟩ := isP_bd hP
    go_wp2_with (first
        | (go_at_call 33; refine (iInverse _ _ _).mono ?_; rintro e w1 ⟨rfl, hb1⟩; replace hb := hb.trans (hb1.mono hb.size); clear hb1)
        | (go_at_call 34; refine (sInverse _ _ _).mono ?_; rintro e w1 ⟨rfl, hb1⟩; replace hb := hb.trans (hb1.mono hb.size); clear hb1)
        | (go_at_call 20; refine (iMul _ _ _ _).mono ?_; rintro e w1 ⟨rfl, hb1⟩; replace hb := hb.trans (hb1.mono hb.size); clear hb1)
        | (go_at_call 35; refine (iPowerIn _ _ _ (by omega) _).mono ?_; rintro e w1 ⟨rfl, hb1⟩; replace hb := hb.trans (hb1.mono hb.size); clear hb1))
    go_ret
    exact ⟨rfl, hb⟩
theorem wInverse_long (a : Option Addr) (len cap : Nat) (w : World) (h : len ≤ cap ∧ cap ≤ 9223372036854775807) (hl : ¬ len ≤ 1048576) :
    Calls Try.prog 5 #[.slice a len cap] w fun e w' => e = .returned (.bool true) ∧ Below w.heap.size w w' := by
  obtain ⟨h1, h2⟩ := h
  go_enter Try.func5, Try.ntmps5
  go_wp2_with fail
  go_ret
  exact ⟨rfl, Below.refl _ _⟩
theorem wInverse (a : Option Addr) (len cap : Nat) (w : World) (h : ByteRow w a len cap) :
    Calls Try.prog 5 #[.slice a len cap] w fun e w' => e = .returned (.bool true) ∧ Below w.heap.size w w' := by
  by_cases hl : len ≤ 1048576
  · exact wInverse_no a len cap w h hl
  · exact wInverse_long a len cap w ⟨h.1, h.2.1⟩ hl
end Go.Proofs.Ytpoemcigklanoaa
