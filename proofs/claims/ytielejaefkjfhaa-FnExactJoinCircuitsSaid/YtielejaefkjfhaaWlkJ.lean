/-
  The walk of the exact law of JoinCircuits. Conditions: none but that the slices read as lists of gates.
-/
import Derived.Test.YtielejaefkjfhaaLaws
import Derived.Test.YtielejaefkjfhaaInG
import Derived.Test.YtielejaefkjfhaaJoiI
namespace Go.Proofs.Ytielejaefkjfhaa
open Go.RowKit
set_option maxRecDepth 100000 in
set_option maxHeartbeats 8000000 in
theorem xJoinCircuits_in (a0 : Int) (a1 : Option Addr) (L1 : List Gt) (c1 : Nat) (a2 : Option Addr) (L2 : List Gt) (c2 : Nat) (a3 : Int) (r0 : List Gt) (r1 : Bool) (w : World) (h1 : Gats w (.slice a1 L1.length c1) L1) (h2 : Gats w (.slice a2 L2.length c2) L2) (hl : L1.length + L2.length ≤ 1048576)
    (hS : ∀ f1, ∀ f2, ∀ w, Gats w f1 L1 → Gats w f2 L2 → Calls Try.prog 42 #[.int .i64 a0, f1, f2, .int .i64 a3] w fun e w' => ∃ u0, e = .returned (.tuple #[u0, .bool r1]) ∧ OwnGats w' w.heap.size u0 r0 ∧ Below w.heap.size w w')
    (hI : ∀ f1, ∀ f2, ∀ w, Gats w f1 L1 → Gats w f2 L2 → Calls Try.prog 43 #[.int .i64 a0, f1, f2, .int .i64 a3] w fun e w' => ∃ u0, e = .returned (.tuple #[u0, .bool r1]) ∧ OwnGats w' w.heap.size u0 r0 ∧ Below w.heap.size w w') :
    Calls Try.prog 10 #[.int .i64 a0, .slice a1 L1.length c1, .slice a2 L2.length c2, .int .i64 a3] w fun e w' => e = .returned (.bool true) ∧ Below w.heap.size w w' := by
  have m1 : (1048576 : Int) - L1.length ≥ 0 := by omega
  have HS1 := Lib.hid (fun w => szC_at a1 L1.length c1 (1048576) w (by omega) (by omega) (by omega))
  have Q1 := Lib.hid h1
  have m2 : (1048576 - L1.length : Int) - L2.length ≥ 0 := by omega
  have HS2 := Lib.hid (fun w => szC_at a2 L2.length c2 (1048576 - L1.length) w (by omega) (by omega) (by omega))
  have Q2 := Lib.hid h2
  have n1 : (L1.length : Int) ≤ 1048576 := by omega
  have n2 : (L2.length : Int) ≤ 1048576 := by omega
  clear h1 h2
  have HSP := Lib.hid hS
  have HIM := Lib.hid hI
  clear hS hI
  have bb1 := bne_self2 r1
  go_enter Try.func10, Try.ntmps10
  go_wp2_with fail
  refine (HS1.out _).mono ?_
  rintro e w' ⟨rfl, rfl⟩
  go_wp2_with fail
  refine (HS2.out _).mono ?_
  rintro e w' ⟨rfl, rfl⟩
  have B := Lib.hid (Below.refl w.heap.size w)
  go_wp2_with fail
  refine (toC _ L1 _ (Q1.out.below B.out)).mono ?_
  rintro e W1 ⟨s1, rfl, ho, hb⟩
  have Z1 := Lib.hid hb.size
  replace B := Lib.hid (B.out.trans (hb.mono B.out.size))
  clear hb
  have S1 := Lib.hid ho.gats
  clear ho
  go_wp2_with fail
  refine (toC _ L2 _ (Q2.out.below B.out)).mono ?_
  rintro e W2 ⟨s2, rfl, ho, hb⟩
  have Z2 := Lib.hid hb.size
  replace B := Lib.hid (B.out.trans (hb.mono B.out.size))
  replace S1 := Lib.hid (S1.out.below hb)
  clear hb
  have S2 := Lib.hid ho.gats
  clear ho
  go_wp2_with fail
  refine (HSP.out _ _ _ S1.out S2.out).mono ?_
  rintro e W3 ⟨v0, rfl, hv0, hb⟩
  have Z3 := Lib.hid hb.size
  replace B := Lib.hid (B.out.trans (hb.mono B.out.size))
  replace S1 := Lib.hid (S1.out.below hb)
  replace S2 := Lib.hid (S2.out.below hb)
  clear hb
  clear S1
  clear S2
  have V0 := Lib.hid hv0.gats
  have z0 : (r0.length : Int) ≤ 1048576 := by have := hv0.1; omega
  clear hv0
  have X := Lib.hid (Below.refl W3.heap.size W3)
  go_wp2_with fail
  refine (toC _ L1 _ (Q1.out.below B.out)).mono ?_
  rintro e W4 ⟨x1, rfl, ho, hb⟩
  have Z4 := Lib.hid hb.size
  replace B := Lib.hid (B.out.trans (hb.mono B.out.size))
  replace X := Lib.hid (X.out.trans (hb.mono X.out.size))
  clear hb
  have O1 := Lib.hid ho
  clear ho
  have Y1 := Lib.hid (Below.refl W4.heap.size W4)
  go_wp2_with fail
  refine (toC _ L2 _ (Q2.out.below B.out)).mono ?_
  rintro e W5 ⟨x2, rfl, ho, hb⟩
  have Z5 := Lib.hid hb.size
  replace B := Lib.hid (B.out.trans (hb.mono B.out.size))
  replace X := Lib.hid (X.out.trans (hb.mono X.out.size))
  replace Y1 := Lib.hid (Y1.out.trans (hb.mono Y1.out.size))
  clear hb
  have O2 := Lib.hid ho
  clear ho
  have Y2 := Lib.hid (Below.refl W5.heap.size W5)
  go_wp2_with fail
  refine (HIM.out _ _ _ (O1.out.gats.below Y1.out) (O2.out.gats.below Y2.out)).mono ?_
  rintro e W6 ⟨g0, rfl, hg0, hb⟩
  have P1 := Lib.hid (show w.heap.size ≤ W3.heap.size ∧ W3.heap.size ≤ W3.heap.size ∧ W4.heap.size ≤ W5.heap.size by have := B.out.size; have := X.out.size; have := Z1.out; have := Z2.out; have := Z3.out; have := Z4.out; have := Z5.out; first | omega | (refine ⟨?_, ?_, ?_⟩ <;> omega))
  have P2 := Lib.hid (show w.heap.size ≤ W4.heap.size ∧ W3.heap.size ≤ W4.heap.size ∧ W5.heap.size ≤ W5.heap.size by have := B.out.size; have := X.out.size; have := Z1.out; have := Z2.out; have := Z3.out; have := Z4.out; have := Z5.out; first | omega | (refine ⟨?_, ?_, ?_⟩ <;> omega))
  have PG := Lib.hid (show w.heap.size ≤ W5.heap.size ∧ W3.heap.size ≤ W5.heap.size by have := Z1.out; have := Z2.out; have := Z3.out; have := Z4.out; have := Z5.out; first | omega | (refine ⟨?_, ?_⟩ <;> omega))
  replace B := Lib.hid (B.out.trans (hb.mono B.out.size))
  replace X := Lib.hid (X.out.trans (hb.mono X.out.size))
  replace Y1 := Lib.hid (Y1.out.trans (hb.mono Y1.out.size))
  replace Y2 := Lib.hid (Y2.out.trans (hb.mono Y2.out.size))
  clear hb
  have G0 := Lib.hid hg0
  clear hg0
  go_wp2_with fail
  refine (eqC g0 v0 r0 _ G0.out.gats (V0.out.below X.out)).mono ?_
  rintro e W7 ⟨rfl, hb⟩
  replace B := Lib.hid (B.out.trans (hb.mono B.out.size))
  replace X := Lib.hid (X.out.trans (hb.mono X.out.size))
  replace Y1 := Lib.hid (Y1.out.trans (hb.mono Y1.out.size))
  replace Y2 := Lib.hid (Y2.out.trans (hb.mono Y2.out.size))
  replace G0 := Lib.hid (G0.out.below hb)
  clear hb
  go_wp2_with fail
  refine (toC _ L1 _ (Q1.out.below B.out)).mono ?_
  rintro e W8 ⟨y1, rfl, ho, hb⟩
  replace B := Lib.hid (B.out.trans (hb.mono B.out.size))
  replace X := Lib.hid (X.out.trans (hb.mono X.out.size))
  replace Y1 := Lib.hid (Y1.out.trans (hb.mono Y1.out.size))
  replace Y2 := Lib.hid (Y2.out.trans (hb.mono Y2.out.size))
  replace G0 := Lib.hid (G0.out.below hb)
  clear hb
  have S1 := Lib.hid ho.gats
  clear ho
  go_wp2_with fail
  refine (eqC x1 y1 L1 _ (O1.out.gats.below Y1.out) S1.out).mono ?_
  rintro e W9 ⟨rfl, hb⟩
  clear S1
  replace B := Lib.hid (B.out.trans (hb.mono B.out.size))
  replace X := Lib.hid (X.out.trans (hb.mono X.out.size))
  replace Y1 := Lib.hid (Y1.out.trans (hb.mono Y1.out.size))
  replace Y2 := Lib.hid (Y2.out.trans (hb.mono Y2.out.size))
  replace G0 := Lib.hid (G0.out.below hb)
  clear hb
  go_wp2_with fail
  refine (toC _ L2 _ (Q2.out.below B.out)).mono ?_
  rintro e W10 ⟨y2, rfl, ho, hb⟩
  replace B := Lib.hid (B.out.trans (hb.mono B.out.size))
  replace X := Lib.hid (X.out.trans (hb.mono X.out.size))
  replace Y1 := Lib.hid (Y1.out.trans (hb.mono Y1.out.size))
  replace Y2 := Lib.hid (Y2.out.trans (hb.mono Y2.out.size))
  replace G0 := Lib.hid (G0.out.below hb)
  clear hb
  have S2 := Lib.hid ho.gats
  clear ho
  go_wp2_with fail
  refine (eqC x2 y2 L2 _ (O2.out.gats.below Y2.out) S2.out).mono ?_
  rintro e W11 ⟨rfl, hb⟩
  clear S2
  replace B := Lib.hid (B.out.trans (hb.mono B.out.size))
  replace X := Lib.hid (X.out.trans (hb.mono X.out.size))
  replace Y1 := Lib.hid (Y1.out.trans (hb.mono Y1.out.size))
  replace Y2 := Lib.hid (Y2.out.trans (hb.mono Y2.out.size))
  replace G0 := Lib.hid (G0.out.below hb)
  clear hb
  go_wp2_with fail
  refine (markGsame x1 L1 _ (1) W4 _ O1.out (same_of Y1.out) (by omega) (by omega)).mono ?_
  rintro e W12 ⟨rfl, hb⟩
  have E1 := Lib.hid hb
  replace B := Lib.hid (B.out.trans (hb.low.mono P1.out.1))
  replace X := Lib.hid (X.out.trans (hb.low.mono P1.out.2.1))
  replace G0 := Lib.hid (G0.out.betw' P1.out.2.2 hb)
  clear hb
  go_wp2_with fail
  refine (markGsame x2 L2 _ (1 + 3 * (L1.length : Int)) W5 _ O2.out ((same_of Y2.out).betw E1.out) (by omega) (by omega)).mono ?_
  rintro e W13 ⟨rfl, hb⟩
  replace B := Lib.hid (B.out.trans (hb.low.mono P2.out.1))
  replace X := Lib.hid (X.out.trans (hb.low.mono P2.out.2.1))
  replace G0 := Lib.hid (G0.out.betw' P2.out.2.2 hb)
  clear hb
  go_wp2_with fail
  refine (eqC g0 v0 r0 _ G0.out.gats (V0.out.below X.out)).mono ?_
  rintro e W14 ⟨rfl, hb⟩
  replace B := Lib.hid (B.out.trans (hb.mono B.out.size))
  replace X := Lib.hid (X.out.trans (hb.mono X.out.size))
  replace G0 := Lib.hid (G0.out.below hb)
  clear hb
  go_wp2_with fail
  refine (markGown g0 r0 _ (1) _ G0.out (by omega) (by omega)).mono ?_
  rintro e W15 ⟨rfl, hh, hb, hs⟩
  replace B := Lib.hid (B.out.trans (hb.mono PG.out.1))
  replace X := Lib.hid (X.out.trans (hb.mono PG.out.2))
  have D0 := Lib.hid hh
  clear hh hb hs
  go_wp2_with fail
  refine (heldGown g0 r0.length _ 1 _ D0.out (by omega) (by omega)).mono ?_
  rintro e W16 ⟨rfl, rfl⟩
  go_wp2_with fail
  refine (toC _ L1 _ (Q1.out.below B.out)).mono ?_
  rintro e W17 ⟨t1, rfl, ho, hb⟩
  replace B := Lib.hid (B.out.trans (hb.mono B.out.size))
  replace X := Lib.hid (X.out.trans (hb.mono X.out.size))
  replace D0 := Lib.hid (D0.out.below hb)
  clear hb
  have S1 := Lib.hid ho.gats
  clear ho
  go_wp2_with fail
  refine (toC _ L2 _ (Q2.out.below B.out)).mono ?_
  rintro e W18 ⟨t2, rfl, ho, hb⟩
  replace B := Lib.hid (B.out.trans (hb.mono B.out.size))
  replace X := Lib.hid (X.out.trans (hb.mono X.out.size))
  replace D0 := Lib.hid (D0.out.below hb)
  replace S1 := Lib.hid (S1.out.below hb)
  clear hb
  have S2 := Lib.hid ho.gats
  clear ho
  go_wp2_with fail
  refine (HIM.out _ _ _ S1.out S2.out).mono ?_
  rintro e W19 ⟨t0, rfl, ht0, hb⟩
  replace B := Lib.hid (B.out.trans (hb.mono B.out.size))
  replace X := Lib.hid (X.out.trans (hb.mono X.out.size))
  replace D0 := Lib.hid (D0.out.below hb)
  replace S1 := Lib.hid (S1.out.below hb)
  replace S2 := Lib.hid (S2.out.below hb)
  clear hb
  clear S1
  clear S2
  have T0 := Lib.hid ht0.gats
  clear ht0
  go_wp2_with fail
  refine (eqC t0 v0 r0 _ T0.out (V0.out.below X.out)).mono ?_
  rintro e W20 ⟨rfl, hb⟩
  replace B := Lib.hid (B.out.trans (hb.mono B.out.size))
  replace X := Lib.hid (X.out.trans (hb.mono X.out.size))
  replace D0 := Lib.hid (D0.out.below hb)
  replace T0 := Lib.hid (T0.out.below hb)
  clear hb
  go_wp2_with fail
  refine (heldGown g0 r0.length _ 1 _ D0.out (by omega) (by omega)).mono ?_
  rintro e W21 ⟨rfl, rfl⟩
  go_wp2_with fail
  go_ret
  exact ⟨rfl, B.out⟩
set_option maxHeartbeats 1000000 in
theorem xJoinCircuits_long0 (a0 : Int) (a1 : Option Addr) (n1 c1 : Nat) (a2 : Option Addr) (n2 c2 : Nat) (a3 : Int) (w : World) (h1 : 1048576 < n1) (h2 : n1 ≤ 9223372036854775807) :
    Calls Try.prog 10 #[.int .i64 a0, .slice a1 n1 c1, .slice a2 n2 c2, .int .i64 a3] w fun e w' => e = .returned (.bool true) ∧ Below w.heap.size w w' := by
  have HS1 := Lib.hid (fun w => szC_over a1 n1 c1 (1048576) w (by omega) (by omega) (by omega) (by omega))
  clear h1 h2
  go_enter Try.func10, Try.ntmps10
  go_wp2_with fail
  refine (HS1.out _).mono ?_
  rintro e w' ⟨rfl, rfl⟩
  go_wp2_with fail
  go_ret
  exact ⟨rfl, Below.refl _ _⟩
set_option maxHeartbeats 1000000 in
theorem xJoinCircuits_long1 (a0 : Int) (a1 : Option Addr) (n1 c1 : Nat) (a2 : Option Addr) (n2 c2 : Nat) (a3 : Int) (w : World) (k1 : n1 ≤ 1048576) (h1 : 1048576 < n1 + n2) (h2 : n2 ≤ 9223372036854775807) :
    Calls Try.prog 10 #[.int .i64 a0, .slice a1 n1 c1, .slice a2 n2 c2, .int .i64 a3] w fun e w' => e = .returned (.bool true) ∧ Below w.heap.size w w' := by
  have m1 : (1048576 : Int) - n1 ≥ 0 := by omega
  have HS1 := Lib.hid (fun w => szC_at a1 n1 c1 (1048576) w (by omega) (by omega) (by omega))
  have HS2 := Lib.hid (fun w => szC_over a2 n2 c2 (1048576 - n1) w (by omega) (by omega) (by omega) (by omega))
  clear h1 h2
  go_enter Try.func10, Try.ntmps10
  go_wp2_with fail
  refine (HS1.out _).mono ?_
  rintro e w' ⟨rfl, rfl⟩
  go_wp2_with fail
  refine (HS2.out _).mono ?_
  rintro e w' ⟨rfl, rfl⟩
  go_wp2_with fail
  go_ret
  exact ⟨rfl, Below.refl _ _⟩
theorem xJoinCircuits (p : Int) (a : Option Addr) (len cap : Nat) (L : List Gt) (a' : Option Addr) (len' cap' : Nat) (M : List Gt) (k : Int) (w : World) (h : RowG w a len L) (h' : RowG w a' len' M) :
    Calls Try.prog 10 #[.int .i64 p, .slice a len cap, .slice a' len' cap', .int .i64 k] w fun e w' => e = .returned (.bool true) ∧ Below w.heap.size w w' := by
  by_cases hl : len ≤ 1048576
  · by_cases hl' : len + len' ≤ 1048576
    · have e1 := h.1
      have e2 := h'.1
      subst e1 e2
      exact xJoinCircuits_in p a L cap a' M cap' k (joinV p L M k) (joinB p L M k) w (h.gats hl) (h'.gats (by omega)) hl' (fun f d w hf hd => sJoinCircuits p f d L M k w hf hd) (fun f d w hf hd => iJoinCircuits p f d L M k w hf hd)
    · exact xJoinCircuits_long1 p a len cap a' len' cap' k w hl (by omega) h'.2.1
  · exact xJoinCircuits_long0 p a len cap a' len' cap' k w (by omega) h.2.1
end Go.Proofs.Ytielejaefkjfhaa
