/-
  The walk of the exact law of LineValid. Conditions: none but that the slices read as lists.
-/
import Derived.Test.YtfmpcniehgipfaaBa7
import Derived.Test.YtfmpcniehgipfaaBa4
namespace Go.Proofs.Ytfmpcniehgipfaa
set_option linter.unusedVariables false
open Go.RowKit
set_option maxRecDepth 100000 in
set_option maxHeartbeats 8000000 in
theorem xLineValid_in (a0 : Int) (a1 : Option Addr) (L1 : List Int) (c1 : Nat) (r0 : Bool) (w : World) (h1 : Ints w (.slice a1 L1.length c1) L1) (hl1 : L1.length ≤ 1048576)
    (hS : ∀ f1, ∀ w, Ints w f1 L1 → Calls Try.prog 20 #[.int .i64 a0, f1] w fun e w' => e = .returned (.bool r0) ∧ Below w.heap.size w w')
    (hI : ∀ f1, ∀ w, Ints w f1 L1 → Calls Try.prog 22 #[.int .i64 a0, f1] w fun e w' => e = .returned (.bool r0) ∧ Below w.heap.size w w') :
    Calls Try.prog 3 #[.int .i64 a0, .slice a1 L1.length c1] w fun e w' => e = .returned (.bool true) ∧ Below w.heap.size w w' := by
  have hng1 : ¬ (L1.length : Int) > 1048576 := by omega
  have Q1 := Lib.hid h1
  have n1 : (L1.length : Int) ≤ 1048576 := by omega
  clear h1
  have HSP := Lib.hid hS
  have HIM := Lib.hid hI
  clear hS hI
  have bb0 := bne_self2 r0
  go_enter Try.func3, Try.ntmps3
  have B := Lib.hid (Below.refl w.heap.size w)
  go_wp2_with fail
  refine (toIv _ L1 _ (Q1.out.below B.out) hl1).mono ?_
  rintro e W1 ⟨s1, rfl, ho, hb⟩
  replace B := Lib.hid (B.out.trans (hb.mono B.out.size))
  clear hb
  have S1 := Lib.hid ho.ints
  clear ho
  go_wp2_with fail
  refine (HSP.out _ _ S1.out).mono ?_
  rintro e W2 ⟨rfl, hb⟩
  replace B := Lib.hid (B.out.trans (hb.mono B.out.size))
  replace S1 := Lib.hid (S1.out.below hb)
  clear hb
  clear S1
  go_wp2_with fail
  refine (toIv _ L1 _ (Q1.out.below B.out) hl1).mono ?_
  rintro e W3 ⟨x1, rfl, ho, hb⟩
  replace B := Lib.hid (B.out.trans (hb.mono B.out.size))
  clear hb
  have O1 := Lib.hid ho
  clear ho
  have Y1 := Lib.hid (Below.refl W3.heap.size W3)
  go_wp2_with fail
  refine (HIM.out _ _ (O1.out.ints.below Y1.out)).mono ?_
  rintro e W4 ⟨rfl, hb⟩
  replace B := Lib.hid (B.out.trans (hb.mono B.out.size))
  replace Y1 := Lib.hid (Y1.out.trans (hb.mono Y1.out.size))
  clear hb
  go_wp2_with fail
  refine (toIv _ L1 _ (Q1.out.below B.out) hl1).mono ?_
  rintro e W5 ⟨y1, rfl, ho, hb⟩
  replace B := Lib.hid (B.out.trans (hb.mono B.out.size))
  replace Y1 := Lib.hid (Y1.out.trans (hb.mono Y1.out.size))
  clear hb
  have S1 := Lib.hid ho.ints
  clear ho
  go_wp2_with fail
  refine (eqIS x1 y1 L1 _ (O1.out.ints.below Y1.out) S1.out).mono ?_
  rintro e W6 ⟨rfl, hb⟩
  clear S1
  replace B := Lib.hid (B.out.trans (hb.mono B.out.size))
  replace Y1 := Lib.hid (Y1.out.trans (hb.mono Y1.out.size))
  clear hb
  go_wp2_with fail
  go_ret
  exact ⟨rfl, B.out⟩
set_option maxHeartbeats 1000000 in
theorem xLineValid_long0 (a0 : Int) (a1 : Option Addr) (n1 c1 : Nat) (w : World) (h1 : 1048576 < n1) :
    Calls Try.prog 3 #[.int .i64 a0, .slice a1 n1 c1] w fun e w' => e = .returned (.bool true) ∧ Below w.heap.size w w' := by
  have hgt : (n1 : Int) > 1048576 := by omega
  clear h1
  go_enter Try.func3, Try.ntmps3
  go_wp2_with fail
  go_ret
  exact ⟨rfl, Below.refl _ _⟩

theorem xLineValid (a0 : Int) (a1 : Option Addr) (len1 c1 : Nat) (L1 : List Int) (w : World) (h1 : RowL w a1 len1 L1) :
    Calls Try.prog 3 #[.int .i64 a0, .slice a1 len1 c1] w fun e w' => e = .returned (.bool true) ∧ Below w.heap.size w w' := by
  by_cases q1 : len1 ≤ 1048576
  · skip
    have e1 := h1.1
    subst e1
    exact xLineValid_in a0 a1 L1 c1 ((lineB a0 L1)) w (h1.ints (by omega)) q1 (fun f1 w k1 => sLineValidB a0 f1 L1 w k1 q1) (fun f1 w k1 => iLineValidB a0 f1 L1 w k1 q1)
  · exact xLineValid_long0 a0 a1 len1 c1 w (by omega)
end Go.Proofs.Ytfmpcniehgipfaa
