/-
  The walk of the exact law of MatrixValid. Conditions: none but that the slices read as lists.
-/
import Derived.Test.YtgclbdpghlcgjaaBa2
import Derived.Test.YtgclbdpghlcgjaaBa6
import Derived.Test.YtgclbdpghlcgjaaBa5
import Derived.Test.YtgclbdpghlcgjaaBa9
namespace Go.Proofs.Ytgclbdpghlcgjaa
set_option linter.unusedVariables false
open Go.RowKit
set_option maxRecDepth 100000 in
set_option maxHeartbeats 8000000 in
theorem xMatrixValid_in (a0 : Int) (a1 : Option Addr) (L1 : List (List Int)) (c1 : Nat) (r0 : Bool) (w : World) (h1 : Mat w (.slice a1 L1.length c1) L1) (hl : (L1.length + cnt L1) ≤ 1048576)
    (hS : ∀ f1, ∀ w, Mat w f1 L1 → Calls Try.prog 32 #[.int .i64 a0, f1] w fun e w' => e = .returned (.bool r0) ∧ Below w.heap.size w w')
    (hI : ∀ f1, ∀ w, Mat w f1 L1 → Calls Try.prog 31 #[.int .i64 a0, f1] w fun e w' => e = .returned (.bool r0) ∧ Below w.heap.size w w') :
    Calls Try.prog 8 #[.int .i64 a0, .slice a1 L1.length c1] w fun e w' => e = .returned (.bool true) ∧ Below w.heap.size w w' := by
  have m1 : (1048576 : Int) - ((L1.length : Int) + (cnt L1 : Int)) ≥ 0 := by omega
  have HS1 := Lib.hid (szM_at a1 L1 c1 (1048576) w h1 (by omega) (by omega) (by omega))
  have Q1 := Lib.hid h1
  have n1 : (L1.length : Int) ≤ 1048576 := by omega
  have nn1 : (cnt L1 : Int) ≤ 1048576 := by omega
  clear h1
  have HSP := Lib.hid hS
  have HIM := Lib.hid hI
  clear hS hI
  have bb0 := bne_self2 r0
  go_enter Try.func8, Try.ntmps8
  go_wp2_with fail
  refine HS1.out.mono ?_
  rintro e w' ⟨rfl, rfl⟩
  have B := Lib.hid (Below.refl w.heap.size w)
  go_wp2_with fail
  refine (toM _ L1 _ (Q1.out.below B.out)).mono ?_
  rintro e W1 ⟨s1, rfl, ho, hb⟩
  replace B := Lib.hid (B.out.trans (hb.mono B.out.size))
  clear hb
  have S1 := Lib.hid ho.mat
  clear ho
  go_wp2_with fail
  refine (HSP.out _ _ S1.out).mono ?_
  rintro e W2 ⟨rfl, hb⟩
  replace B := Lib.hid (B.out.trans (hb.mono B.out.size))
  replace S1 := Lib.hid (S1.out.below hb)
  clear hb
  clear S1
  go_wp2_with fail
  refine (toM _ L1 _ (Q1.out.below B.out)).mono ?_
  rintro e W3 ⟨x1, rfl, ho, hb⟩
  replace B := Lib.hid (B.out.trans (hb.mono B.out.size))
  clear hb
  have O1 := Lib.hid ho
  clear ho
  have Y1 := Lib.hid (Below.refl W3.heap.size W3)
  go_wp2_with fail
  refine (HIM.out _ _ (O1.out.mat.below Y1.out)).mono ?_
  rintro e W4 ⟨rfl, hb⟩
  replace B := Lib.hid (B.out.trans (hb.mono B.out.size))
  replace Y1 := Lib.hid (Y1.out.trans (hb.mono Y1.out.size))
  clear hb
  go_wp2_with fail
  refine (toM _ L1 _ (Q1.out.below B.out)).mono ?_
  rintro e W5 ⟨y1, rfl, ho, hb⟩
  replace B := Lib.hid (B.out.trans (hb.mono B.out.size))
  replace Y1 := Lib.hid (Y1.out.trans (hb.mono Y1.out.size))
  clear hb
  have S1 := Lib.hid ho.mat
  clear ho
  go_wp2_with fail
  refine (eqM x1 y1 L1 _ (O1.out.mat.below Y1.out) S1.out).mono ?_
  rintro e W6 ⟨rfl, hb⟩
  clear S1
  replace B := Lib.hid (B.out.trans (hb.mono B.out.size))
  replace Y1 := Lib.hid (Y1.out.trans (hb.mono Y1.out.size))
  clear hb
  go_wp2_with fail
  go_ret
  exact ⟨rfl, B.out⟩
set_option maxHeartbeats 1000000 in
theorem xMatrixValid_long0 (a0 : Int) (a1 : Option Addr) (n1 c1 : Nat) (L1 : List (List Int)) (w : World) (rr1 : RowM w a1 n1 L1) (h1 : 1048576 < (n1 + cnt L1)) (h2 : n1 ≤ 9223372036854775807) :
    Calls Try.prog 8 #[.int .i64 a0, .slice a1 n1 c1] w fun e w' => e = .returned (.bool true) ∧ Below w.heap.size w w' := by
  have HS1 := Lib.hid (szM_over a1 n1 c1 L1 (1048576) w rr1 (by omega) (by omega) (by omega))
  clear h1 h2
  go_enter Try.func8, Try.ntmps8
  go_wp2_with fail
  refine HS1.out.mono ?_
  rintro e w' ⟨rfl, rfl⟩
  go_wp2_with fail
  go_ret
  exact ⟨rfl, Below.refl _ _⟩

theorem xMatrixValid (a0 : Int) (a1 : Option Addr) (len1 c1 : Nat) (L1 : List (List Int)) (w : World) (h1 : RowM w a1 len1 L1) :
    Calls Try.prog 8 #[.int .i64 a0, .slice a1 len1 c1] w fun e w' => e = .returned (.bool true) ∧ Below w.heap.size w w' := by
  by_cases q1 : (len1 + cnt L1) ≤ 1048576
  · skip
    have e1 := h1.1
    subst e1
    exact xMatrixValid_in a0 a1 L1 c1 (matB a0 L1) w (h1.mat (by omega)) (by omega) (fun f1 w k1 => sMVb a0 f1 L1 w k1) (fun f1 w k1 => iMVb a0 f1 L1 w k1)
  · exact xMatrixValid_long0 a0 a1 len1 c1 L1 w h1 (by omega) h1.2.1
end Go.Proofs.Ytgclbdpghlcgjaa
