/-
  The walk of the law FnReduce: it returns true. Conditions: the bytes can be read.
-/
import Derived.Test.YtpoemcigklanoaaDrw2
import Derived.Test.YtpoemcigklanoaaFldLaw
namespace Go.Proofs.Ytpoemcigklanoaa
open Go.RowKit
theorem minV_no {p a : Int} (h : isE1 p a = false) : minV p a = -1 := by simp [minV, h]
theorem minV_yes {p a : Int} (h : isE1 p a = true) : 0 ≤ minV p a ∧ minV p (minV p a) = a := by
  obtain ⟨hp, a0, a1⟩ := isE1_iff.1 h
  have hb := isP_bd hp
  obtain ⟨s0, s1⟩ := mod_in hp (-a)
  rw [minV_eq hp a0 a1]
  refine ⟨s0, ?_⟩
  rw [minV_eq hp s0 s1]
  by_cases h0 : a = 0
  · subst h0; simp
  · have e : -a % p = p - a := by
      rw [← Int.add_emod_right]
      rw [Int.emod_eq_of_lt (by omega) (by omega)]; omega
    rw [e, ← Int.add_emod_right]
    rw [Int.emod_eq_of_lt (by omega) (by omega)]; omega
theorem red_zero {p : Int} (hp : isP p = true) (n : Int) : (n.tmod p - n % p).tmod p = 0 := by
  have hb := isP_bd hp
  have h1 := Int.mul_tdiv_add_tmod n p
  have h2 := Int.mul_ediv_add_emod n p
  have e : n.tmod p - n % p = p * (n / p - n.tdiv p) := by rw [Int.mul_sub]; omega
  rw [e, Int.mul_tmod_right]
theorem lenTest (n : Nat) (h : n ≤ 1048576) : ¬ (1048576 : Int) < (n : Int) := by omega
set_option maxRecDepth 100000 in
set_option maxHeartbeats 4000000 in
theorem wReduce_no (a : Option Addr) (len cap : Nat) (a' : Option Addr) (len' cap' : Nat) (w : World) (h : ByteRow w a len cap) (h' : ByteRow w a' len' cap') (hl : len ≤ 1048576) (hl' : len' ≤ 1048576) :
    Calls Try.prog 4 #[.slice a len cap, .slice a' len' cap'] w fun e w' => e = .returned (.bool true) ∧ Below w.heap.size w w' := by
  have hh := Lib.hid h
  have hh' := Lib.hid h'
  clear h h'
  go_enter Try.func4, Try.ntmps4
  go_wp2_with fail
  refine (drawReduce a len cap w hh.out).mono ?_
  rintro e w0 ⟨p, n, rfl, hp, hn, hb⟩
  cases hE : isP p
  · have hP := Lib.hid hE
    clear hE
    go_wp2_with (first
      | (go_at_call 28; refine (iRed_no _ _ _ hP.out).mono ?_; rintro e w1 ⟨rfl, rfl⟩)
      | (go_at_call 29; refine (sRed_no _ _ _ hP.out).mono ?_; rintro e w1 ⟨rfl, rfl⟩)
      | (go_at_call 24; refine (iPV_no _ _ hP.out).mono ?_; rintro e w1 ⟨rfl, rfl⟩))
    go_ret
    exact ⟨rfl, hb⟩
  · have hP := Lib.hid hE
    obtain ⟨p0, p1⟩ := isP_bd hE
    obtain ⟨k0, k1⟩ := mod_in hE n
    obtain ⟨t0, t1⟩ := tmod_bd n p (by omega)
    have z0 : ((n.tmod p - n % p).tmod p == 0) = true := by rw [red_zero hE]; rfl
    clear hE
    go_wp2_with (first
      | (go_at_call 28; refine (iRed _ _ _ hP.out).mono ?_; rintro e w1 ⟨rfl, rfl⟩)
      | (go_at_call 29; refine (sRed _ _ _ hP.out).mono ?_; rintro e w1 ⟨rfl, rfl⟩)
      | fail)
    refine (drawMinusIn a' len' cap' _ (hh'.out.below hb)).mono ?_
    rintro e w1 ⟨q, x, rfl, hq, hx, hb1⟩
    replace hb := hb.trans (hb1.mono hb.size)
    clear hb1
    cases hE : isE1 q x
    · have M := minV_no hE
      have M1 : minV q x < 0 := by omega
      clear M hE
      go_wp2_with (first
        | (go_at_call 28; refine (iRed _ _ _ hP.out).mono ?_; rintro e w1 ⟨rfl, rfl⟩)
        | (go_at_call 26; refine (iMin _ _ _).mono ?_; rintro e w1 ⟨rfl, hb1⟩; replace hb := hb.trans (hb1.mono hb.size); clear hb1)
        | (go_at_call 31; refine (sMin _ _ _).mono ?_; rintro e w1 ⟨rfl, hb1⟩; replace hb := hb.trans (hb1.mono hb.size); clear hb1))
      go_ret
      exact ⟨rfl, hb⟩
    · obtain ⟨M1, M2⟩ := minV_yes hE
      have M3 : (minV q (minV q x) == x) = true := by rw [M2]; simp
      clear M2 hE
      go_wp2_with (first
        | (go_at_call 28; refine (iRed _ _ _ hP.out).mono ?_; rintro e w1 ⟨rfl, rfl⟩)
        | (go_at_call 26; refine (iMin _ _ _).mono ?_; rintro e w1 ⟨rfl, hb1⟩; replace hb := hb.trans (hb1.mono hb.size); clear hb1)
        | (go_at_call 31; refine (sMin _ _ _).mono ?_; rintro e w1 ⟨rfl, hb1⟩; replace hb := hb.trans (hb1.mono hb.size); clear hb1))
      go_ret
      exact ⟨rfl, hb⟩
theorem wReduce_long (a : Option Addr) (len cap : Nat) (a' : Option Addr) (len' cap' : Nat) (w : World) (h : len ≤ cap ∧ cap ≤ 9223372036854775807) (h' : len' ≤ cap' ∧ cap' ≤ 9223372036854775807) (hl : ¬ (len ≤ 1048576 ∧ len' ≤ 1048576)) :
    Calls Try.prog 4 #[.slice a len cap, .slice a' len' cap'] w fun e w' => e = .returned (.bool true) ∧ Below w.heap.size w w' := by
  obtain ⟨h1, h2⟩ := h
  obtain ⟨h3, h4⟩ := h'
  by_cases hl1 : len ≤ 1048576
  · have hl2 : ¬ len' ≤ 1048576 := fun e => hl ⟨hl1, e⟩
    clear hl
    go_enter Try.func4, Try.ntmps4
    go_wp2_with fail
    go_ret
    exact ⟨rfl, Below.refl _ _⟩
  · clear hl
    go_enter Try.func4, Try.ntmps4
    go_wp2_with fail
    go_ret
    exact ⟨rfl, Below.refl _ _⟩
theorem wReduce (a : Option Addr) (len cap : Nat) (a' : Option Addr) (len' cap' : Nat) (w : World) (h : ByteRow w a len cap) (h' : ByteRow w a' len' cap') :
    Calls Try.prog 4 #[.slice a len cap, .slice a' len' cap'] w fun e w' => e = .returned (.bool true) ∧ Below w.heap.size w w' := by
  by_cases hl : len ≤ 1048576 ∧ len' ≤ 1048576
  · exact wReduce_no a len cap a' len' cap' w h h' hl.1 hl.2
  · exact wReduce_long a len cap a' len' cap' w ⟨h.1, h.2.1⟩ ⟨h'.1, h'.2.1⟩ hl
end Go.Proofs.Ytpoemcigklanoaa
