/-
  The walk of the exact law of CircuitOfFormula. Conditions: none.
-/
import Derived.Test.YtiahcaihmgnicaaBh5
import Derived.Test.YtiahcaihmgnicaaBb18
import Derived.Test.YtiahcaihmgnicaaBb5
import Derived.Test.YtiahcaihmgnicaaBb6
namespace Go.Proofs.Ytiahcaihmgnicaa
open Go.RowKit
set_option maxRecDepth 100000 in
set_option maxHeartbeats 8000000 in
theorem xCircuitOfFormula_in (a0 : Int) (s : ByteArray) (r0 : List Gt) (r1 : Bool) (w : World) (hlen : ¬ ((1048576 : Int) < (s.size : Int)))
    (hS : ∀ w, Calls Try.prog 52 #[.int .i64 a0, .string s] w fun e w' => ∃ u0, e = .returned (.tuple #[u0, .bool r1]) ∧ OwnGats w' w.heap.size u0 r0 ∧ Below w.heap.size w w')
    (hI : ∀ w, Calls Try.prog 53 #[.int .i64 a0, .string s] w fun e w' => ∃ u0, e = .returned (.tuple #[u0, .bool r1]) ∧ OwnGats w' w.heap.size u0 r0 ∧ Below w.heap.size w w') :
    Calls Try.prog 13 #[.int .i64 a0, .string s] w fun e w' => e = .returned (.bool true) ∧ Below w.heap.size w w' := by
  skip
  have HSP := Lib.hid hS
  have HIM := Lib.hid hI
  clear hS hI
  have bb1 := bne_self2 r1
  go_enter Try.func13, Try.ntmps13
  have B := Lib.hid (Below.refl w.heap.size w)
  go_wp2_with fail
  refine (HSP.out  _ ).mono ?_
  rintro e W1 ⟨v0, rfl, hv0, hb⟩
  have Z1 := Lib.hid hb.size
  replace B := Lib.hid (B.out.trans (hb.mono B.out.size))
  clear hb
  have V0 := Lib.hid hv0.gats
  have z0 : (r0.length : Int) ≤ 1048576 := by have := hv0.1; omega
  clear hv0
  have X := Lib.hid (Below.refl W1.heap.size W1)
  go_wp2_with fail
  refine (HIM.out  _ ).mono ?_
  rintro e W2 ⟨g0, rfl, hg0, hb⟩
  have PG := Lib.hid (show w.heap.size ≤ W1.heap.size ∧ W1.heap.size ≤ W1.heap.size by have := Z1.out; first | omega | (refine ⟨?_, ?_⟩ <;> omega))
  replace B := Lib.hid (B.out.trans (hb.mono B.out.size))
  replace X := Lib.hid (X.out.trans (hb.mono X.out.size))
  clear hb
  have G0 := Lib.hid hg0
  clear hg0
  go_wp2_with fail
  refine (eqC g0 v0 r0 _ G0.out.gats (V0.out.below X.out)).mono ?_
  rintro e W3 ⟨rfl, hb⟩
  replace B := Lib.hid (B.out.trans (hb.mono B.out.size))
  replace X := Lib.hid (X.out.trans (hb.mono X.out.size))
  replace G0 := Lib.hid (G0.out.below hb)
  clear hb
  go_wp2_with fail
  refine (markGown g0 r0 _ (1) _ G0.out (by omega) (by omega)).mono ?_
  rintro e W4 ⟨rfl, hh, hb, hs⟩
  replace B := Lib.hid (B.out.trans (hb.mono PG.out.1))
  replace X := Lib.hid (X.out.trans (hb.mono PG.out.2))
  have D0 := Lib.hid hh
  clear hh hb hs
  go_wp2_with fail
  refine (heldGown g0 r0.length _ 1 _ D0.out (by omega) (by omega)).mono ?_
  rintro e W5 ⟨rfl, rfl⟩
  go_wp2_with fail
  refine (HIM.out  _ ).mono ?_
  rintro e W6 ⟨t0, rfl, ht0, hb⟩
  replace B := Lib.hid (B.out.trans (hb.mono B.out.size))
  replace X := Lib.hid (X.out.trans (hb.mono X.out.size))
  replace D0 := Lib.hid (D0.out.below hb)
  clear hb
  have T0 := Lib.hid ht0.gats
  clear ht0
  go_wp2_with fail
  refine (eqC t0 v0 r0 _ T0.out (V0.out.below X.out)).mono ?_
  rintro e W7 ⟨rfl, hb⟩
  replace B := Lib.hid (B.out.trans (hb.mono B.out.size))
  replace X := Lib.hid (X.out.trans (hb.mono X.out.size))
  replace D0 := Lib.hid (D0.out.below hb)
  replace T0 := Lib.hid (T0.out.below hb)
  clear hb
  go_wp2_with fail
  refine (heldGown g0 r0.length _ 1 _ D0.out (by omega) (by omega)).mono ?_
  rintro e W8 ⟨rfl, rfl⟩
  go_wp2_with fail
  go_ret
  exact ⟨rfl, B.out⟩
set_option maxRecDepth 100000 in
set_option maxHeartbeats 4000000 in
theorem xCircuitOfFormula (p : Int) (s : ByteArray) (w : World) :
    Calls Try.prog 13 #[.int .i64 p, .string s] w fun e w' => e = .returned (.bool true) ∧ Below w.heap.size w w' := by
  rcases Classical.em ((1048576 : Int) < (s.size : Int)) with hl | hl
  · go_enter Try.func13, Try.ntmps13
    go_wp2_with fail
    go_ret
    exact ⟨rfl, Below.refl _ _⟩
  · exact xCircuitOfFormula_in p s (cofV p s) (foF p s).isSome w hl (fun w => sCircuitOfFormula p s w) (fun w => iCircuitOfFormula p s w)
end Go.Proofs.Ytiahcaihmgnicaa
