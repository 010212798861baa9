/-
  DetOf and PermanentOf of both: the answers, told of the elements. Conditions: none but that the slice reads as a matrix.
  The walk of the exact law of DetOf. Conditions: none but that the slices read as lists.
  The walk of the exact law of PermanentOf. Conditions: none but that the slices read as lists.
-/
import Derived.Test.YtlcmddghppdmgaaBd17
import Derived.Test.YtlcmddghppdmgaaBd18
import Derived.Test.YtlcmddghppdmgaaBd14
import Derived.Test.YtlcmddghppdmgaaBd2
import Derived.Test.YtlcmddghppdmgaaBd9
import Derived.Test.YtlcmddghppdmgaaBd7
namespace Go.Proofs.Ytlcmddghppdmgaa
set_option linter.unusedVariables false
open Go.RowKit Go.Shelf
/-- a square matrix -/
def sqB (p : Int) (M : List (List Int)) : Bool := matB p M && decide (M.length = (rowM M 0).length)
/-- the determinant, or without signs the permanent -/
def detV (s : Bool) (p : Int) (M : List (List Int)) : Int := if sqB p M = true then lapZ s M.length (el M) % p else -1
theorem sqB_side {p : Int} {M : List (List Int)} (h : sqB p M = true) : matB p M = true ∧ M.length = (rowM M 0).length := by
  simpa [sqB] using h
theorem sum_lap (s : Bool) (n : Nat) (h1 : 1 ≤ n) (h4 : n ≤ 4) (f : Nat → Nat → Int) : sumZ (if s then -1 else 1) f (permsL n) = lapZ s n f := by
  rcases (show n = 1 ∨ n = 2 ∨ n = 3 ∨ n = 4 by omega) with rfl | rfl | rfl | rfl
  · exact eq1 s f
  · exact eq2 s f
  · exact eq3 s f
  · exact eq4 s f
theorem smP_lap {p t : Int} (hp : 2 ≤ p) (s : Bool) (ht : t % p = (if s then -1 else 1) % p) (n : Nat) (h1 : 1 ≤ n) (h4 : n ≤ 4) (f : Nat → Nat → Int) : smP p t f (permsL n) 0 = lapZ s n f % p := by
  obtain ⟨a, b⟩ := smP_bd hp t f (permsL n) 0 ⟨by omega, by omega⟩
  rw [← Int.emod_eq_of_lt a b, smP_mod p t _ ht, sum_lap s n h1 h4, Int.zero_add]
set_option maxRecDepth 100000 in
set_option maxHeartbeats 1000000 in
theorem iSq (p : Int) (v : Value) (M : List (List Int)) (w : World) (h : Mat w v M) :
    Calls Try.prog 110 #[.int .i64 p, v] w fun e w' => e = .returned (.bool (sqB p M)) ∧ w = w' := by
  have HMV := Lib.hid (iMV p v M w h)
  cases hB : matB p M
  · have HV := Lib.hid (show false = sqB p M from by simp [sqB, hB])
    rw [hB] at HMV
    obtain ⟨_, _, a, cap, rfl, _⟩ := h
    clear hB
    go_enter Try.func110, Try.ntmps110
    go_wp2_with fail
    refine HMV.out.mono ?_
    rintro e w' ⟨rfl, rfl⟩
    go_wp2_with fail
    go_ret
    exact ⟨ret_bool2 HV.out, rfl⟩
  · obtain ⟨r, c, hr, hr1, hr4, hc, hc1, hc4, hrow, hel, hMF⟩ := matB_side hB
    obtain ⟨g, off, cap, rfl, hC⟩ := h.cells hr hr1 hc1 hrow
    rw [hB] at HMV
    obtain ⟨b0, o0, c0, _, hh0, _⟩ := hC.plc (show 0 < r by omega)
    have hh0 := hh0 w (Below.refl _ _)
    rw [Nat.add_zero] at hh0
    have hrp : 0 < r := by omega
    have HV := Lib.hid (show decide (r = c) = sqB p M from by simp [sqB, hB, hr, hc])
    clear hB h hMF hel hrow hC hr hc
    by_cases he : r = c
    · have HV := Lib.hid (show true = sqB p M from by rw [← HV.out]; simp [he])
      subst he
      go_enter Try.func110, Try.ntmps110
      go_wp2_with fail
      refine HMV.out.mono ?_
      rintro e w' ⟨rfl, rfl⟩
      go_wp2_with fail
      go_ret
      exact ⟨ret_bool2 HV.out, rfl⟩
    · have heb : ((r : Int) == (c : Int)) = false := by simp; omega
      have hei : ¬ (r : Int) = (c : Int) := by omega
      have HV := Lib.hid (show false = sqB p M from by rw [← HV.out]; simp [he])
      go_enter Try.func110, Try.ntmps110
      go_wp2_with fail
      refine HMV.out.mono ?_
      rintro e w' ⟨rfl, rfl⟩
      go_wp2_with fail
      go_ret
      exact ⟨ret_bool2 HV.out, rfl⟩
set_option maxRecDepth 100000 in
set_option maxHeartbeats 1000000 in
theorem sSq (p : Int) (v : Value) (M : List (List Int)) (w : World) (h : Mat w v M) :
    Calls Try.prog 108 #[.int .i64 p, v] w fun e w' => e = .returned (.bool (sqB p M)) ∧ w = w' := by
  have HMV := Lib.hid (sMV p v M w h)
  cases hB : matB p M
  · have HV := Lib.hid (show false = sqB p M from by simp [sqB, hB])
    rw [hB] at HMV
    obtain ⟨_, _, a, cap, rfl, _⟩ := h
    clear hB
    go_enter Try.func108, Try.ntmps108
    go_wp2_with fail
    refine HMV.out.mono ?_
    rintro e w' ⟨rfl, rfl⟩
    go_wp2_with fail
    go_ret
    exact ⟨ret_bool2 HV.out, rfl⟩
  · obtain ⟨r, c, hr, hr1, hr4, hc, hc1, hc4, hrow, hel, hMF⟩ := matB_side hB
    obtain ⟨g, off, cap, rfl, hC⟩ := h.cells hr hr1 hc1 hrow
    rw [hB] at HMV
    obtain ⟨b0, o0, c0, _, hh0, _⟩ := hC.plc (show 0 < r by omega)
    have hh0 := hh0 w (Below.refl _ _)
    rw [Nat.add_zero] at hh0
    have hrp : 0 < r := by omega
    have HV := Lib.hid (show decide (r = c) = sqB p M from by simp [sqB, hB, hr, hc])
    clear hB h hMF hel hrow hC hr hc
    by_cases he : r = c
    · have HV := Lib.hid (show true = sqB p M from by rw [← HV.out]; simp [he])
      subst he
      go_enter Try.func108, Try.ntmps108
      go_wp2_with fail
      refine HMV.out.mono ?_
      rintro e w' ⟨rfl, rfl⟩
      go_wp2_with fail
      go_ret
      exact ⟨ret_bool2 HV.out, rfl⟩
    · have heb : ((r : Int) == (c : Int)) = false := by simp; omega
      have hei : ¬ (r : Int) = (c : Int) := by omega
      have HV := Lib.hid (show false = sqB p M from by rw [← HV.out]; simp [he])
      go_enter Try.func108, Try.ntmps108
      go_wp2_with fail
      refine HMV.out.mono ?_
      rintro e w' ⟨rfl, rfl⟩
      go_wp2_with fail
      go_ret
      exact ⟨ret_bool2 HV.out, rfl⟩
set_option maxRecDepth 100000 in
set_option maxHeartbeats 1000000 in
theorem iDet (p : Int) (v : Value) (M : List (List Int)) (w : World) (h : Mat w v M) :
    Calls Try.prog 40 #[.int .i64 p, v] w fun e w' => e = .returned (.int .i64 (detV true p M)) ∧ Below w.heap.size w w' := by
  cases hB : sqB p M
  · have HV := Lib.hid (show -1 = detV true p M from by simp [detV, hB])
    have HS := Lib.hid (iSq p v M w h)
    rw [hB] at HS
    obtain ⟨_, _, a, cap, rfl, _⟩ := h
    clear hB
    go_enter Try.func40, Try.ntmps40
    go_wp2_with fail
    refine HS.out.mono ?_
    rintro e w' ⟨rfl, rfl⟩
    go_wp2_with fail
    go_ret
    exact ⟨ret_int HV.out, Below.refl _ _⟩
  · have HS := Lib.hid (iSq p v M w h)
    rw [hB] at HS
    obtain ⟨hM, hsq⟩ := sqB_side hB
    obtain ⟨r, c, hr, hr1, hr4, hc, hc1, hc4, hrow, hel, hMF⟩ := matB_side hM
    obtain ⟨g, off, cap, rfl, hC⟩ := h.cells hr hr1 hc1 hrow
    have hp := (matB_iff.1 hM).1
    have hpb := isP_bd hp
    have hrc : c = r := by omega
    subst hrc
    have HV := Lib.hid (show lapZ true c (el M) % p = detV true p M from by simp [detV, hB, hr])
    have hmv : minV p 1 = (-1) % p := by unfold minV; rw [if_pos (by simp [isE1, isE, hp]; omega)]
    have ht0 : 0 ≤ minV p 1 ∧ minV p 1 < p := by rw [hmv]; exact ⟨Int.emod_nonneg _ (by omega), Int.emod_lt_of_pos _ (by omega)⟩
    have HT := Lib.hid (fun w1 (hb : Below w.heap.size w w1) => iSop p (minV p 1) hp ht0 g off c cap (el M) w1 (hC.below hb) hr1 hr4 hel)
    have HE := Lib.hid (smP_lap (p := p) (t := minV p 1) (by omega) true (by rw [hmv, Int.emod_emod]; rfl) c hr1 hr4 (el M))
    rw [HE.out, HV.out] at HT
    clear hB hM hsq hr hc hrow hel hMF hC h hp hmv ht0 HE
    go_enter Try.func40, Try.ntmps40
    go_wp2_with fail
    refine HS.out.mono ?_
    rintro e w' ⟨rfl, rfl⟩
    go_wp2_with fail
    refine (iMin p 1 _).mono ?_
    rintro e w1 ⟨rfl, hb1⟩
    have HB1 := Lib.hid hb1
    clear hb1
    go_wp2_with fail
    refine (HT.out _ HB1.out).mono ?_
    rintro e w2 ⟨rfl, hb2⟩
    have hb3 := HB1.out.trans (hb2.mono HB1.out.size)
    go_wp2_with fail
    go_ret
    exact ⟨rfl, hb3⟩
set_option maxRecDepth 100000 in
set_option maxHeartbeats 1000000 in
theorem iPermt (p : Int) (v : Value) (M : List (List Int)) (w : World) (h : Mat w v M) :
    Calls Try.prog 42 #[.int .i64 p, v] w fun e w' => e = .returned (.int .i64 (detV false p M)) ∧ Below w.heap.size w w' := by
  cases hB : sqB p M
  · have HV := Lib.hid (show -1 = detV false p M from by simp [detV, hB])
    have HS := Lib.hid (iSq p v M w h)
    rw [hB] at HS
    obtain ⟨_, _, a, cap, rfl, _⟩ := h
    clear hB
    go_enter Try.func42, Try.ntmps42
    go_wp2_with fail
    refine HS.out.mono ?_
    rintro e w' ⟨rfl, rfl⟩
    go_wp2_with fail
    go_ret
    exact ⟨ret_int HV.out, Below.refl _ _⟩
  · have HS := Lib.hid (iSq p v M w h)
    rw [hB] at HS
    obtain ⟨hM, hsq⟩ := sqB_side hB
    obtain ⟨r, c, hr, hr1, hr4, hc, hc1, hc4, hrow, hel, hMF⟩ := matB_side hM
    obtain ⟨g, off, cap, rfl, hC⟩ := h.cells hr hr1 hc1 hrow
    have hp := (matB_iff.1 hM).1
    have hpb := isP_bd hp
    have hrc : c = r := by omega
    subst hrc
    have HV := Lib.hid (show lapZ false c (el M) % p = detV false p M from by simp [detV, hB, hr])
    have HT := Lib.hid (iSop p 1 hp ⟨by omega, by omega⟩ g off c cap (el M) w hC hr1 hr4 hel)
    have HE := Lib.hid (smP_lap (p := p) (t := 1) (by omega) false rfl c hr1 hr4 (el M))
    rw [HE.out, HV.out] at HT
    clear hB hM hsq hr hc hrow hel hMF hC h hp HE
    go_enter Try.func42, Try.ntmps42
    go_wp2_with fail
    refine HS.out.mono ?_
    rintro e w' ⟨rfl, rfl⟩
    go_wp2_with fail
    refine HT.out.mono ?_
    rintro e w2 ⟨rfl, hb2⟩
    go_wp2_with fail
    go_ret
    exact ⟨rfl, hb2⟩
set_option maxRecDepth 100000 in
set_option maxHeartbeats 1000000 in
theorem sDet (p : Int) (v : Value) (M : List (List Int)) (w : World) (h : Mat w v M) :
    Calls Try.prog 38 #[.int .i64 p, v] w fun e w' => e = .returned (.int .i64 (detV true p M)) ∧ Below w.heap.size w w' := by
  cases hB : sqB p M
  · have HV := Lib.hid (show -1 = detV true p M from by simp [detV, hB])
    have HS := Lib.hid (sSq p v M w h)
    rw [hB] at HS
    obtain ⟨_, _, a, cap, rfl, _⟩ := h
    clear hB
    go_enter Try.func38, Try.ntmps38
    go_wp2_with fail
    refine HS.out.mono ?_
    rintro e w' ⟨rfl, rfl⟩
    go_wp2_with fail
    go_ret
    exact ⟨ret_int HV.out, Below.refl _ _⟩
  · have HS := Lib.hid (sSq p v M w h)
    rw [hB] at HS
    obtain ⟨hM, hsq⟩ := sqB_side hB
    obtain ⟨r, c, hr, hr1, hr4, hc, hc1, hc4, hrow, hel, hMF⟩ := matB_side hM
    obtain ⟨g, off, cap, rfl, hC⟩ := h.cells hr hr1 hc1 hrow
    have hp := (matB_iff.1 hM).1
    have hpb := isP_bd hp
    have hrc : c = r := by omega
    subst hrc
    have HV := Lib.hid (show lapZ true c (el M) % p = detV true p M from by simp [detV, hB, hr])
    have HT := Lib.hid (sExpand p hp true c hr4 _ (el M) w (.inr ⟨hr1, g, off, cap, rfl, hC⟩) hel)
    rw [HV.out] at HT
    clear hB hM hsq hr hc hrow hel hMF hC h hp
    go_enter Try.func38, Try.ntmps38
    go_wp2_with fail
    refine HS.out.mono ?_
    rintro e w' ⟨rfl, rfl⟩
    go_wp2_with fail
    refine HT.out.mono ?_
    rintro e w2 ⟨rfl, hb2⟩
    go_wp2_with fail
    go_ret
    exact ⟨rfl, hb2⟩
set_option maxRecDepth 100000 in
set_option maxHeartbeats 1000000 in
theorem sPermt (p : Int) (v : Value) (M : List (List Int)) (w : World) (h : Mat w v M) :
    Calls Try.prog 41 #[.int .i64 p, v] w fun e w' => e = .returned (.int .i64 (detV false p M)) ∧ Below w.heap.size w w' := by
  cases hB : sqB p M
  · have HV := Lib.hid (show -1 = detV false p M from by simp [detV, hB])
    have HS := Lib.hid (sSq p v M w h)
    rw [hB] at HS
    obtain ⟨_, _, a, cap, rfl, _⟩ := h
    clear hB
    go_enter Try.func41, Try.ntmps41
    go_wp2_with fail
    refine HS.out.mono ?_
    rintro e w' ⟨rfl, rfl⟩
    go_wp2_with fail
    go_ret
    exact ⟨ret_int HV.out, Below.refl _ _⟩
  · have HS := Lib.hid (sSq p v M w h)
    rw [hB] at HS
    obtain ⟨hM, hsq⟩ := sqB_side hB
    obtain ⟨r, c, hr, hr1, hr4, hc, hc1, hc4, hrow, hel, hMF⟩ := matB_side hM
    obtain ⟨g, off, cap, rfl, hC⟩ := h.cells hr hr1 hc1 hrow
    have hp := (matB_iff.1 hM).1
    have hpb := isP_bd hp
    have hrc : c = r := by omega
    subst hrc
    have HV := Lib.hid (show lapZ false c (el M) % p = detV false p M from by simp [detV, hB, hr])
    have HT := Lib.hid (sExpand p hp false c hr4 _ (el M) w (.inr ⟨hr1, g, off, cap, rfl, hC⟩) hel)
    rw [HV.out] at HT
    clear hB hM hsq hr hc hrow hel hMF hC h hp
    go_enter Try.func41, Try.ntmps41
    go_wp2_with fail
    refine HS.out.mono ?_
    rintro e w' ⟨rfl, rfl⟩
    go_wp2_with fail
    refine HT.out.mono ?_
    rintro e w2 ⟨rfl, hb2⟩
    go_wp2_with fail
    go_ret
    exact ⟨rfl, hb2⟩
end Go.Proofs.Ytlcmddghppdmgaa
namespace Go.Proofs.Ytlcmddghppdmgaa
set_option linter.unusedVariables false
open Go.RowKit
set_option maxRecDepth 100000 in
set_option maxHeartbeats 8000000 in
theorem xDetOf_in (a0 : Int) (a1 : Option Addr) (L1 : List (List Int)) (c1 : Nat) (r0 : Int) (w : World) (h1 : Mat w (.slice a1 L1.length c1) L1) (hl : (L1.length + cnt L1) ≤ 1048576)
    (hS : ∀ f1, ∀ w, Mat w f1 L1 → Calls Try.prog 38 #[.int .i64 a0, f1] w fun e w' => e = .returned (.int .i64 r0) ∧ Below w.heap.size w w')
    (hI : ∀ f1, ∀ w, Mat w f1 L1 → Calls Try.prog 40 #[.int .i64 a0, f1] w fun e w' => e = .returned (.int .i64 r0) ∧ Below w.heap.size w w') :
    Calls Try.prog 8 #[.int .i64 a0, .slice a1 L1.length c1] w fun e w' => e = .returned (.bool true) ∧ Below w.heap.size w w' := by
  have m1 : (1048576 : Int) - ((L1.length : Int) + (cnt L1 : Int)) ≥ 0 := by omega
  have HS1 := Lib.hid (szM_at a1 L1 c1 (1048576) w h1 (by omega) (by omega) (by omega))
  have Q1 := Lib.hid h1
  have n1 : (L1.length : Int) ≤ 1048576 := by omega
  have nn1 : (cnt L1 : Int) ≤ 1048576 := by omega
  clear h1
  have HSP := Lib.hid hS
  have HIM := Lib.hid hI
  clear hS hI
  have bb0 : (r0 != r0) = false := by simp
  go_enter Try.func8, Try.ntmps8
  go_wp2_with fail
  refine HS1.out.mono ?_
  rintro e w' ⟨rfl, rfl⟩
  have B := Lib.hid (Below.refl w.heap.size w)
  go_wp2_with fail
  refine (toM _ L1 _ (Q1.out.below B.out)).mono ?_
  rintro e W1 ⟨s1, rfl, ho, hb⟩
  replace B := Lib.hid (B.out.trans (hb.mono B.out.size))
  clear hb
  have S1 := Lib.hid ho.mat
  clear ho
  go_wp2_with fail
  refine (HSP.out _ _ S1.out).mono ?_
  rintro e W2 ⟨rfl, hb⟩
  replace B := Lib.hid (B.out.trans (hb.mono B.out.size))
  replace S1 := Lib.hid (S1.out.below hb)
  clear hb
  clear S1
  go_wp2_with fail
  refine (toM _ L1 _ (Q1.out.below B.out)).mono ?_
  rintro e W3 ⟨x1, rfl, ho, hb⟩
  replace B := Lib.hid (B.out.trans (hb.mono B.out.size))
  clear hb
  have O1 := Lib.hid ho
  clear ho
  have Y1 := Lib.hid (Below.refl W3.heap.size W3)
  go_wp2_with fail
  refine (HIM.out _ _ (O1.out.mat.below Y1.out)).mono ?_
  rintro e W4 ⟨rfl, hb⟩
  replace B := Lib.hid (B.out.trans (hb.mono B.out.size))
  replace Y1 := Lib.hid (Y1.out.trans (hb.mono Y1.out.size))
  clear hb
  go_wp2_with fail
  refine (toM _ L1 _ (Q1.out.below B.out)).mono ?_
  rintro e W5 ⟨y1, rfl, ho, hb⟩
  replace B := Lib.hid (B.out.trans (hb.mono B.out.size))
  replace Y1 := Lib.hid (Y1.out.trans (hb.mono Y1.out.size))
  clear hb
  have S1 := Lib.hid ho.mat
  clear ho
  go_wp2_with fail
  refine (eqM x1 y1 L1 _ (O1.out.mat.below Y1.out) S1.out).mono ?_
  rintro e W6 ⟨rfl, hb⟩
  clear S1
  replace B := Lib.hid (B.out.trans (hb.mono B.out.size))
  replace Y1 := Lib.hid (Y1.out.trans (hb.mono Y1.out.size))
  clear hb
  go_wp2_with fail
  go_ret
  exact ⟨rfl, B.out⟩
set_option maxHeartbeats 1000000 in
theorem xDetOf_long0 (a0 : Int) (a1 : Option Addr) (n1 c1 : Nat) (L1 : List (List Int)) (w : World) (rr1 : RowM w a1 n1 L1) (h1 : 1048576 < (n1 + cnt L1)) (h2 : n1 ≤ 9223372036854775807) :
    Calls Try.prog 8 #[.int .i64 a0, .slice a1 n1 c1] w fun e w' => e = .returned (.bool true) ∧ Below w.heap.size w w' := by
  have HS1 := Lib.hid (szM_over a1 n1 c1 L1 (1048576) w rr1 (by omega) (by omega) (by omega))
  clear h1 h2
  go_enter Try.func8, Try.ntmps8
  go_wp2_with fail
  refine HS1.out.mono ?_
  rintro e w' ⟨rfl, rfl⟩
  go_wp2_with fail
  go_ret
  exact ⟨rfl, Below.refl _ _⟩

theorem xDetOf (a0 : Int) (a1 : Option Addr) (len1 c1 : Nat) (L1 : List (List Int)) (w : World) (h1 : RowM w a1 len1 L1) :
    Calls Try.prog 8 #[.int .i64 a0, .slice a1 len1 c1] w fun e w' => e = .returned (.bool true) ∧ Below w.heap.size w w' := by
  by_cases q1 : (len1 + cnt L1) ≤ 1048576
  · skip
    have e1 := h1.1
    subst e1
    exact xDetOf_in a0 a1 L1 c1 (detV true a0 L1) w (h1.mat (by omega)) (by omega) (fun f1 w k1 => sDet a0 f1 L1 w k1) (fun f1 w k1 => iDet a0 f1 L1 w k1)
  · exact xDetOf_long0 a0 a1 len1 c1 L1 w h1 (by omega) h1.2.1
end Go.Proofs.Ytlcmddghppdmgaa
namespace Go.Proofs.Ytlcmddghppdmgaa
set_option linter.unusedVariables false
open Go.RowKit
set_option maxRecDepth 100000 in
set_option maxHeartbeats 8000000 in
theorem xPermanentOf_in (a0 : Int) (a1 : Option Addr) (L1 : List (List Int)) (c1 : Nat) (r0 : Int) (w : World) (h1 : Mat w (.slice a1 L1.length c1) L1) (hl : (L1.length + cnt L1) ≤ 1048576)
    (hS : ∀ f1, ∀ w, Mat w f1 L1 → Calls Try.prog 41 #[.int .i64 a0, f1] w fun e w' => e = .returned (.int .i64 r0) ∧ Below w.heap.size w w')
    (hI : ∀ f1, ∀ w, Mat w f1 L1 → Calls Try.prog 42 #[.int .i64 a0, f1] w fun e w' => e = .returned (.int .i64 r0) ∧ Below w.heap.size w w') :
    Calls Try.prog 9 #[.int .i64 a0, .slice a1 L1.length c1] w fun e w' => e = .returned (.bool true) ∧ Below w.heap.size w w' := by
  have m1 : (1048576 : Int) - ((L1.length : Int) + (cnt L1 : Int)) ≥ 0 := by omega
  have HS1 := Lib.hid (szM_at a1 L1 c1 (1048576) w h1 (by omega) (by omega) (by omega))
  have Q1 := Lib.hid h1
  have n1 : (L1.length : Int) ≤ 1048576 := by omega
  have nn1 : (cnt L1 : Int) ≤ 1048576 := by omega
  clear h1
  have HSP := Lib.hid hS
  have HIM := Lib.hid hI
  clear hS hI
  have bb0 : (r0 != r0) = false := by simp
  go_enter Try.func9, Try.ntmps9
  go_wp2_with fail
  refine HS1.out.mono ?_
  rintro e w' ⟨rfl, rfl⟩
  have B := Lib.hid (Below.refl w.heap.size w)
  go_wp2_with fail
  refine (toM _ L1 _ (Q1.out.below B.out)).mono ?_
  rintro e W1 ⟨s1, rfl, ho, hb⟩
  replace B := Lib.hid (B.out.trans (hb.mono B.out.size))
  clear hb
  have S1 := Lib.hid ho.mat
  clear ho
  go_wp2_with fail
  refine (HSP.out _ _ S1.out).mono ?_
  rintro e W2 ⟨rfl, hb⟩
  replace B := Lib.hid (B.out.trans (hb.mono B.out.size))
  replace S1 := Lib.hid (S1.out.below hb)
  clear hb
  clear S1
  go_wp2_with fail
  refine (toM _ L1 _ (Q1.out.below B.out)).mono ?_
  rintro e W3 ⟨x1, rfl, ho, hb⟩
  replace B := Lib.hid (B.out.trans (hb.mono B.out.size))
  clear hb
  have O1 := Lib.hid ho
  clear ho
  have Y1 := Lib.hid (Below.refl W3.heap.size W3)
  go_wp2_with fail
  refine (HIM.out _ _ (O1.out.mat.below Y1.out)).mono ?_
  rintro e W4 ⟨rfl, hb⟩
  replace B := Lib.hid (B.out.trans (hb.mono B.out.size))
  replace Y1 := Lib.hid (Y1.out.trans (hb.mono Y1.out.size))
  clear hb
  go_wp2_with fail
  refine (toM _ L1 _ (Q1.out.below B.out)).mono ?_
  rintro e W5 ⟨y1, rfl, ho, hb⟩
  replace B := Lib.hid (B.out.trans (hb.mono B.out.size))
  replace Y1 := Lib.hid (Y1.out.trans (hb.mono Y1.out.size))
  clear hb
  have S1 := Lib.hid ho.mat
  clear ho
  go_wp2_with fail
  refine (eqM x1 y1 L1 _ (O1.out.mat.below Y1.out) S1.out).mono ?_
  rintro e W6 ⟨rfl, hb⟩
  clear S1
  replace B := Lib.hid (B.out.trans (hb.mono B.out.size))
  replace Y1 := Lib.hid (Y1.out.trans (hb.mono Y1.out.size))
  clear hb
  go_wp2_with fail
  go_ret
  exact ⟨rfl, B.out⟩
set_option maxHeartbeats 1000000 in
theorem xPermanentOf_long0 (a0 : Int) (a1 : Option Addr) (n1 c1 : Nat) (L1 : List (List Int)) (w : World) (rr1 : RowM w a1 n1 L1) (h1 : 1048576 < (n1 + cnt L1)) (h2 : n1 ≤ 9223372036854775807) :
    Calls Try.prog 9 #[.int .i64 a0, .slice a1 n1 c1] w fun e w' => e = .returned (.bool true) ∧ Below w.heap.size w w' := by
  have HS1 := Lib.hid (szM_over a1 n1 c1 L1 (1048576) w rr1 (by omega) (by omega) (by omega))
  clear h1 h2
  go_enter Try.func9, Try.ntmps9
  go_wp2_with fail
  refine HS1.out.mono ?_
  rintro e w' ⟨rfl, rfl⟩
  go_wp2_with fail
  go_ret
  exact ⟨rfl, Below.refl _ _⟩

theorem xPermanentOf (a0 : Int) (a1 : Option Addr) (len1 c1 : Nat) (L1 : List (List Int)) (w : World) (h1 : RowM w a1 len1 L1) :
    Calls Try.prog 9 #[.int .i64 a0, .slice a1 len1 c1] w fun e w' => e = .returned (.bool true) ∧ Below w.heap.size w w' := by
  by_cases q1 : (len1 + cnt L1) ≤ 1048576
  · skip
    have e1 := h1.1
    subst e1
    exact xPermanentOf_in a0 a1 L1 c1 (detV false a0 L1) w (h1.mat (by omega)) (by omega) (fun f1 w k1 => sPermt a0 f1 L1 w k1) (fun f1 w k1 => iPermt a0 f1 L1 w k1)
  · exact xPermanentOf_long0 a0 a1 len1 c1 L1 w h1 (by omega) h1.2.1
end Go.Proofs.Ytlcmddghppdmgaa
