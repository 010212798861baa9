/-
  The walk of the exact law of PolyOfValues. Conditions: none but that the slices read as lists.
-/
import Derived.Test.YtajabchbdhjdiaaBc3
import Derived.Test.YtajabchbdhjdiaaBc4
import Derived.Test.YtajabchbdhjdiaaBa29
import Derived.Test.YtajabchbdhjdiaaBa5
namespace Go.Proofs.Ytajabchbdhjdiaa
set_option linter.unusedVariables false
open Go.RowKit
set_option maxRecDepth 100000 in
set_option maxHeartbeats 8000000 in
theorem xPolyOfValues_in (a0 : Int) (a1 : Option Addr) (L1 : List Int) (c1 : Nat) (r0 : List Trm) (r1 : Bool) (w : World) (h1 : Ints w (.slice a1 L1.length c1) L1) (hl1 : L1.length ≤ 1048576)
    (hS : ∀ f1, ∀ w, Ints w f1 L1 → Calls Try.prog 26 #[.int .i64 a0, f1] w fun e w' => ∃ u0, e = .returned (.tuple #[u0, .bool r1]) ∧ OwnTrms w' w.heap.size u0 r0 ∧ Below w.heap.size w w')
    (hI : ∀ f1, ∀ w, Ints w f1 L1 → Calls Try.prog 28 #[.int .i64 a0, f1] w fun e w' => ∃ u0, e = .returned (.tuple #[u0, .bool r1]) ∧ OwnTrms w' w.heap.size u0 r0 ∧ Below w.heap.size w w') :
    Calls Try.prog 4 #[.int .i64 a0, .slice a1 L1.length c1] w fun e w' => e = .returned (.bool true) ∧ Below w.heap.size w w' := by
  have hng1 : ¬ (L1.length : Int) > 1048576 := by omega
  have Q1 := Lib.hid h1
  have n1 : (L1.length : Int) ≤ 1048576 := by omega
  clear h1
  have HSP := Lib.hid hS
  have HIM := Lib.hid hI
  clear hS hI
  have bb1 := bne_self2 r1
  go_enter Try.func4, Try.ntmps4
  have B := Lib.hid (Below.refl w.heap.size w)
  go_wp2_with fail
  refine (toIv _ L1 _ (Q1.out.below B.out) hl1).mono ?_
  rintro e W1 ⟨s1, rfl, ho, hb⟩
  have Z1 := Lib.hid hb.size
  replace B := Lib.hid (B.out.trans (hb.mono B.out.size))
  clear hb
  have S1 := Lib.hid ho.ints
  clear ho
  go_wp2_with fail
  refine (HSP.out _ _ S1.out).mono ?_
  rintro e W2 ⟨v0, rfl, hv0, hb⟩
  have Z2 := Lib.hid hb.size
  replace B := Lib.hid (B.out.trans (hb.mono B.out.size))
  replace S1 := Lib.hid (S1.out.below hb)
  clear hb
  clear S1
  have V0 := Lib.hid hv0.trms
  have z0 : (r0.length : Int) ≤ 1048576 := by have := hv0.1; omega
  clear hv0
  have X := Lib.hid (Below.refl W2.heap.size W2)
  go_wp2_with fail
  refine (toIv _ L1 _ (Q1.out.below B.out) hl1).mono ?_
  rintro e W3 ⟨x1, rfl, ho, hb⟩
  have Z3 := Lib.hid hb.size
  replace B := Lib.hid (B.out.trans (hb.mono B.out.size))
  replace X := Lib.hid (X.out.trans (hb.mono X.out.size))
  clear hb
  have O1 := Lib.hid ho
  clear ho
  have Y1 := Lib.hid (Below.refl W3.heap.size W3)
  go_wp2_with fail
  refine (HIM.out _ _ (O1.out.ints.below Y1.out)).mono ?_
  rintro e W4 ⟨g0, rfl, hg0, hb⟩
  have P1 := Lib.hid (show w.heap.size ≤ W2.heap.size ∧ W2.heap.size ≤ W2.heap.size ∧ W3.heap.size ≤ W3.heap.size by have := B.out.size; have := X.out.size; have := Z1.out; have := Z2.out; have := Z3.out; first | omega | (refine ⟨?_, ?_, ?_⟩ <;> omega))
  have PG := Lib.hid (show w.heap.size ≤ W3.heap.size ∧ W2.heap.size ≤ W3.heap.size by have := Z1.out; have := Z2.out; have := Z3.out; first | omega | (refine ⟨?_, ?_⟩ <;> omega))
  replace B := Lib.hid (B.out.trans (hb.mono B.out.size))
  replace X := Lib.hid (X.out.trans (hb.mono X.out.size))
  replace Y1 := Lib.hid (Y1.out.trans (hb.mono Y1.out.size))
  clear hb
  have G0 := Lib.hid hg0
  clear hg0
  go_wp2_with fail
  refine (eqP g0 v0 r0 _ G0.out.trms (V0.out.below X.out)).mono ?_
  rintro e W5 ⟨rfl, hb⟩
  replace B := Lib.hid (B.out.trans (hb.mono B.out.size))
  replace X := Lib.hid (X.out.trans (hb.mono X.out.size))
  replace Y1 := Lib.hid (Y1.out.trans (hb.mono Y1.out.size))
  replace G0 := Lib.hid (G0.out.below hb)
  clear hb
  go_wp2_with fail
  refine (toIv _ L1 _ (Q1.out.below B.out) hl1).mono ?_
  rintro e W6 ⟨y1, rfl, ho, hb⟩
  replace B := Lib.hid (B.out.trans (hb.mono B.out.size))
  replace X := Lib.hid (X.out.trans (hb.mono X.out.size))
  replace Y1 := Lib.hid (Y1.out.trans (hb.mono Y1.out.size))
  replace G0 := Lib.hid (G0.out.below hb)
  clear hb
  have S1 := Lib.hid ho.ints
  clear ho
  go_wp2_with fail
  refine (eqIS x1 y1 L1 _ (O1.out.ints.below Y1.out) S1.out).mono ?_
  rintro e W7 ⟨rfl, hb⟩
  clear S1
  replace B := Lib.hid (B.out.trans (hb.mono B.out.size))
  replace X := Lib.hid (X.out.trans (hb.mono X.out.size))
  replace Y1 := Lib.hid (Y1.out.trans (hb.mono Y1.out.size))
  replace G0 := Lib.hid (G0.out.below hb)
  clear hb
  go_wp2_with fail
  refine (markIsame x1 L1 _ (1) W3 _ O1.out (same_of Y1.out) (by omega) (by omega)).mono ?_
  rintro e W8 ⟨rfl, hb⟩
  replace B := Lib.hid (B.out.trans (hb.low.mono P1.out.1))
  replace X := Lib.hid (X.out.trans (hb.low.mono P1.out.2.1))
  replace G0 := Lib.hid (G0.out.betw' P1.out.2.2 hb)
  clear hb
  go_wp2_with fail
  refine (eqP g0 v0 r0 _ G0.out.trms (V0.out.below X.out)).mono ?_
  rintro e W9 ⟨rfl, hb⟩
  replace B := Lib.hid (B.out.trans (hb.mono B.out.size))
  replace X := Lib.hid (X.out.trans (hb.mono X.out.size))
  replace G0 := Lib.hid (G0.out.below hb)
  clear hb
  go_wp2_with fail
  refine (markTown g0 r0 _ (1) _ G0.out (by omega) (by omega)).mono ?_
  rintro e W10 ⟨rfl, hh, hb, hs⟩
  replace B := Lib.hid (B.out.trans (hb.mono PG.out.1))
  replace X := Lib.hid (X.out.trans (hb.mono PG.out.2))
  have D0 := Lib.hid hh
  clear hh hb hs
  go_wp2_with fail
  refine (heldTown g0 r0.length _ 1 _ D0.out (by omega) (by omega)).mono ?_
  rintro e W11 ⟨rfl, rfl⟩
  go_wp2_with fail
  refine (toIv _ L1 _ (Q1.out.below B.out) hl1).mono ?_
  rintro e W12 ⟨t1, rfl, ho, hb⟩
  replace B := Lib.hid (B.out.trans (hb.mono B.out.size))
  replace X := Lib.hid (X.out.trans (hb.mono X.out.size))
  replace D0 := Lib.hid (D0.out.below hb)
  clear hb
  have S1 := Lib.hid ho.ints
  clear ho
  go_wp2_with fail
  refine (HIM.out _ _ S1.out).mono ?_
  rintro e W13 ⟨t0, rfl, ht0, hb⟩
  replace B := Lib.hid (B.out.trans (hb.mono B.out.size))
  replace X := Lib.hid (X.out.trans (hb.mono X.out.size))
  replace D0 := Lib.hid (D0.out.below hb)
  replace S1 := Lib.hid (S1.out.below hb)
  clear hb
  clear S1
  have T0 := Lib.hid ht0.trms
  clear ht0
  go_wp2_with fail
  refine (eqP t0 v0 r0 _ T0.out (V0.out.below X.out)).mono ?_
  rintro e W14 ⟨rfl, hb⟩
  replace B := Lib.hid (B.out.trans (hb.mono B.out.size))
  replace X := Lib.hid (X.out.trans (hb.mono X.out.size))
  replace D0 := Lib.hid (D0.out.below hb)
  replace T0 := Lib.hid (T0.out.below hb)
  clear hb
  go_wp2_with fail
  refine (heldTown g0 r0.length _ 1 _ D0.out (by omega) (by omega)).mono ?_
  rintro e W15 ⟨rfl, rfl⟩
  go_wp2_with fail
  go_ret
  exact ⟨rfl, B.out⟩
set_option maxHeartbeats 1000000 in
theorem xPolyOfValues_long0 (a0 : Int) (a1 : Option Addr) (n1 c1 : Nat) (w : World) (h1 : 1048576 < n1) :
    Calls Try.prog 4 #[.int .i64 a0, .slice a1 n1 c1] w fun e w' => e = .returned (.bool true) ∧ Below w.heap.size w w' := by
  have hgt : (n1 : Int) > 1048576 := by omega
  clear h1
  go_enter Try.func4, Try.ntmps4
  go_wp2_with fail
  go_ret
  exact ⟨rfl, Below.refl _ _⟩

theorem xPolyOfValues (a0 : Int) (a1 : Option Addr) (len1 c1 : Nat) (L1 : List Int) (w : World) (h1 : RowL w a1 len1 L1) :
    Calls Try.prog 4 #[.int .i64 a0, .slice a1 len1 c1] w fun e w' => e = .returned (.bool true) ∧ Below w.heap.size w w' := by
  by_cases q1 : len1 ≤ 1048576
  · skip
    have e1 := h1.1
    subst e1
    exact xPolyOfValues_in a0 a1 L1 c1 ((pvV a0 L1)) ((pvB a0 L1)) w (h1.ints (by omega)) q1 (fun f1 w k1 => sPolyOfValues a0 f1 L1 w k1 q1) (fun f1 w k1 => iPolyOfValues a0 f1 L1 w k1 q1)
  · exact xPolyOfValues_long0 a0 a1 len1 c1 w (by omega)
end Go.Proofs.Ytajabchbdhjdiaa
