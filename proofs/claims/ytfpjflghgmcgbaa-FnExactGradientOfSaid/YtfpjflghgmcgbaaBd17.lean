/-
  The walk of the exact law of GradientOf. Conditions: none but that the slice reads as a list of gates.
-/
import Derived.Test.YtfpjflghgmcgbaaBd11
import Derived.Test.YtfpjflghgmcgbaaBa5
import Derived.Test.YtfpjflghgmcgbaaBd16
namespace Go.Proofs.Ytfpjflghgmcgbaa
open Go.RowKit
set_option maxRecDepth 100000 in
set_option maxHeartbeats 8000000 in
theorem xGradientOf_in (a0 : Int) (a1 : Option Addr) (L1 : List Gt) (c1 : Nat) (r0 : List Gt) (x y z : Int) (r1 : Bool) (w : World) (h1 : Gats w (.slice a1 L1.length c1) L1) (hl : L1.length ≤ 1048576)
    (hS : ∀ f1, ∀ w, Gats w f1 L1 → Calls Try.prog 15 #[.int .i64 a0, f1] w (GivesGr r0 x y z r1 w))
    (hI : ∀ f1, ∀ w, Gats w f1 L1 → Calls Try.prog 14 #[.int .i64 a0, f1] w (GivesGr r0 x y z r1 w)) :
    Calls Try.prog 7 #[.int .i64 a0, .slice a1 L1.length c1] w fun e w' => e = .returned (.bool true) ∧ Below w.heap.size w w' := by
  have m1 : (1048576 : Int) - L1.length ≥ 0 := by omega
  have HS1 := Lib.hid (fun w => szC_at a1 L1.length c1 (1048576) w (by omega) (by omega) (by omega))
  have Q1 := Lib.hid h1
  have n1 : (L1.length : Int) ≤ 1048576 := by omega
  clear h1
  have HSP := Lib.hid hS
  have HIM := Lib.hid hI
  clear hS hI
  have bb1 := bne_self2 r1
  go_enter Try.func7, Try.ntmps7
  go_wp2_with fail
  refine (HS1.out _).mono ?_
  rintro e w' ⟨rfl, rfl⟩
  have B := Lib.hid (Below.refl w.heap.size w)
  go_wp2_with fail
  refine (toC _ L1 _ (Q1.out.below B.out)).mono ?_
  rintro e W1 ⟨s1, rfl, ho, hb⟩
  have S1 := Lib.hid ho.gats
  clear ho
  replace B := Lib.hid (B.out.trans (hb.mono B.out.size))
  clear hb
  go_wp2_with fail
  refine (HSP.out _ _ S1.out).mono ?_
  rintro e W2 ⟨v0, rfl, hv0, hb⟩
  replace B := Lib.hid (B.out.trans (hb.mono B.out.size))
  replace S1 := Lib.hid (S1.out.below hb)
  clear hb
  clear S1
  obtain ⟨_, av, cv, rfl, _⟩ := id hv0
  obtain ⟨b0, hb0⟩ : ∃ n, n = W2.heap.size := ⟨_, rfl⟩
  obtain ⟨U2, hU2⟩ : ∃ U, U = W2.alloc (Obj.cells #[.slice av r0.length cv, .int .i64 x, .int .i64 y, .int .i64 z] 29) := ⟨_, rfl⟩
  have A0 := Lib.hid (show GBx U2 b0 (.slice av r0.length cv) x y z by rw [hU2, hb0]; exact GBx.new W2 _ x y z _)
  have hb : Below W2.heap.size W2 U2 := by rw [hU2]; exact (by repeat (first | exact Below.refl _ _ | apply Below.drew | apply below_drewN | (refine Below.alloc ?_ (by first | omega | (simp <;> omega)) _)))
  have HU2 := Lib.hid hU2
  have Hb0 := Lib.hid hb0
  clear hU2 hb0
  have V0 := Lib.hid (hv0.gats.below hb)
  have z0 : (r0.length : Int) ≤ 1048576 := by have := hv0.1; omega
  clear hv0
  replace B := Lib.hid (B.out.trans (hb.mono B.out.size))
  clear hb
  have X := Lib.hid (Below.refl U2.heap.size U2)
  have Lb0 := Lib.hid A0.out.2
  have Lw := Lib.hid B.out.size
  go_upto_region 6 with fail
  rw [← HU2.out, ← Hb0.out]
  clear HU2 Hb0
  go_wp2_with fail
  refine (toC _ L1 _ (Q1.out.below B.out)).mono ?_
  rintro e W3 ⟨x1, rfl, ho, hb⟩
  have Z3 := Lib.hid hb.size
  replace B := Lib.hid (B.out.trans (hb.mono B.out.size))
  replace A0 := Lib.hid (A0.out.on hb)
  replace X := Lib.hid (X.out.trans (hb.mono X.out.size))
  clear hb
  have O1 := Lib.hid ho
  clear ho
  have Y1 := Lib.hid (Below.refl W3.heap.size W3)
  go_wp2_with fail
  refine (HIM.out _ _ (O1.out.gats.below Y1.out)).mono ?_
  rintro e W4 ⟨g0, rfl, hg0, hb⟩
  have Z4 := Lib.hid hb.size
  replace B := Lib.hid (B.out.trans (hb.mono B.out.size))
  replace A0 := Lib.hid (A0.out.on hb)
  replace X := Lib.hid (X.out.trans (hb.mono X.out.size))
  replace Y1 := Lib.hid (Y1.out.trans (hb.mono Y1.out.size))
  clear hb
  obtain ⟨_, ag, cg, rfl, _⟩ := id hg0
  obtain ⟨b1, hb1⟩ : ∃ n, n = W4.heap.size := ⟨_, rfl⟩
  obtain ⟨U4, hU4⟩ : ∃ U, U = W4.alloc (Obj.cells #[.slice ag r0.length cg, .int .i64 x, .int .i64 y, .int .i64 z] 29) := ⟨_, rfl⟩
  have A1 := Lib.hid (show GBx U4 b1 (.slice ag r0.length cg) x y z by rw [hU4, hb1]; exact GBx.new W4 _ x y z _)
  have hb : Below W4.heap.size W4 U4 := by rw [hU4]; exact (by repeat (first | exact Below.refl _ _ | apply Below.drew | apply below_drewN | (refine Below.alloc ?_ (by first | omega | (simp <;> omega)) _)))
  have HU4 := Lib.hid hU4
  have Hb1 := Lib.hid hb1
  clear hU4 hb1
  have GC := Lib.hid (show InB (.slice ag r0.length cg) r0 b1 by rw [Hb1.out]; exact hg0.inB)
  have G0 := Lib.hid (hg0.below hb)
  clear hg0
  replace B := Lib.hid (B.out.trans (hb.mono B.out.size))
  replace A0 := Lib.hid (A0.out.on hb)
  replace X := Lib.hid (X.out.trans (hb.mono X.out.size))
  replace Y1 := Lib.hid (Y1.out.trans (hb.mono Y1.out.size))
  clear hb
  have Lb1 := Lib.hid (show W3.heap.size ≤ b1 by rw [Hb1.out]; exact Z4.out)
  go_upto_region 8 with fail
  rw [← HU4.out, ← Hb1.out]
  clear HU4 Hb1
  obtain ⟨p0, p1, p2, p3⟩ := A1.out.1
  obtain ⟨q0, q1, q2, q3⟩ := A0.out.1
  go_wp2_with fail
  refine (eqGr (.slice ag r0.length cg) (.slice av r0.length cv) r0 x y z _ G0.out.gats (V0.out.below X.out)).mono ?_
  rintro e W5 ⟨rfl, hb⟩
  clear p0 p1 p2 p3 q0 q1 q2 q3
  replace B := Lib.hid (B.out.trans (hb.mono B.out.size))
  replace A0 := Lib.hid (A0.out.on hb)
  replace X := Lib.hid (X.out.trans (hb.mono X.out.size))
  replace Y1 := Lib.hid (Y1.out.trans (hb.mono Y1.out.size))
  replace A1 := Lib.hid (A1.out.on hb)
  replace G0 := Lib.hid (G0.out.below hb)
  clear hb
  go_wp2_with fail
  refine (toC _ L1 _ (Q1.out.below B.out)).mono ?_
  rintro e W6 ⟨y1, rfl, ho, hb⟩
  replace B := Lib.hid (B.out.trans (hb.mono B.out.size))
  replace A0 := Lib.hid (A0.out.on hb)
  replace X := Lib.hid (X.out.trans (hb.mono X.out.size))
  replace Y1 := Lib.hid (Y1.out.trans (hb.mono Y1.out.size))
  replace A1 := Lib.hid (A1.out.on hb)
  replace G0 := Lib.hid (G0.out.below hb)
  clear hb
  have S1 := Lib.hid ho.gats
  clear ho
  go_wp2_with fail
  refine (eqC x1 y1 L1 _ (O1.out.gats.below Y1.out) S1.out).mono ?_
  rintro e W7 ⟨rfl, hb⟩
  clear S1
  replace B := Lib.hid (B.out.trans (hb.mono B.out.size))
  replace A0 := Lib.hid (A0.out.on hb)
  replace X := Lib.hid (X.out.trans (hb.mono X.out.size))
  replace Y1 := Lib.hid (Y1.out.trans (hb.mono Y1.out.size))
  replace A1 := Lib.hid (A1.out.on hb)
  replace G0 := Lib.hid (G0.out.below hb)
  clear hb
  go_wp2_with fail
  refine (markGsame x1 L1 _ (1) W3 _ O1.out (same_of Y1.out) (by omega) (by omega)).mono ?_
  rintro e W8 ⟨rfl, hb⟩
  replace A0 := Lib.hid (A0.out.same (hb.block b0 (.inl Lb0.out)) (Nat.le_of_eq hb.size.symm))
  replace A1 := Lib.hid (A1.out.same (hb.block b1 (.inr Lb1.out)) (Nat.le_of_eq hb.size.symm))
  replace B := Lib.hid (B.out.trans (hb.low.mono Lw.out))
  replace X := Lib.hid (X.out.trans (hb.low.mono (Nat.le_refl _)))
  replace G0 := Lib.hid (G0.out.betw' (Nat.le_refl _) hb)
  clear hb
  clear Y1
  obtain ⟨p0, p1, p2, p3⟩ := A1.out.1
  obtain ⟨q0, q1, q2, q3⟩ := A0.out.1
  go_wp2_with fail
  refine (eqGr (.slice ag r0.length cg) (.slice av r0.length cv) r0 x y z _ G0.out.gats (V0.out.below X.out)).mono ?_
  rintro e W9 ⟨rfl, hb⟩
  clear p0 p1 p2 p3 q0 q1 q2 q3
  replace B := Lib.hid (B.out.trans (hb.mono B.out.size))
  replace A0 := Lib.hid (A0.out.on hb)
  replace X := Lib.hid (X.out.trans (hb.mono X.out.size))
  replace A1 := Lib.hid (A1.out.on hb)
  replace G0 := Lib.hid (G0.out.below hb)
  clear hb
  obtain ⟨p0, p1, p2, p3⟩ := A1.out.1
  have Lx := Lib.hid (show W3.heap.size ≤ W9.heap.size by have := A1.out.2; have := Lb1.out; omega)
  go_wp2_with fail
  refine (markGrad (.slice ag r0.length cg) r0 x y z _ b1 (1) _ G0.out GC.out Lx.out (by omega) (by omega)).mono ?_
  rintro e W10 ⟨rfl, hh, hb, hs⟩
  clear p0 p1 p2 p3
  replace A0 := Lib.hid (A0.out.same (hb.block b0 (Nat.lt_of_lt_of_le Lb0.out Z3.out)) hb.size)
  replace A1 := Lib.hid (A1.out.same (hs b1 (Nat.le_refl _) A1.out.2) hb.size)
  replace B := Lib.hid (B.out.trans (hb.mono (Nat.le_trans Lw.out Z3.out)))
  replace X := Lib.hid (X.out.trans (hb.mono Z3.out))
  have D0 := Lib.hid hh
  clear hh hb hs G0
  obtain ⟨p0, p1, p2, p3⟩ := A1.out.1
  go_wp2_with fail
  refine (heldGrad (.slice ag r0.length cg) r0.length x y z _ 1 _ D0.out (by omega) (by omega)).mono ?_
  rintro e W11 ⟨rfl, hb⟩
  clear p0 p1 p2 p3
  replace B := Lib.hid (B.out.trans (hb.mono B.out.size))
  replace A0 := Lib.hid (A0.out.on hb)
  replace X := Lib.hid (X.out.trans (hb.mono X.out.size))
  replace A1 := Lib.hid (A1.out.on hb)
  replace D0 := Lib.hid (D0.out.below hb)
  clear hb
  go_wp2_with fail
  refine (toC _ L1 _ (Q1.out.below B.out)).mono ?_
  rintro e W12 ⟨t1, rfl, ho, hb⟩
  replace B := Lib.hid (B.out.trans (hb.mono B.out.size))
  replace A0 := Lib.hid (A0.out.on hb)
  replace X := Lib.hid (X.out.trans (hb.mono X.out.size))
  replace A1 := Lib.hid (A1.out.on hb)
  replace D0 := Lib.hid (D0.out.below hb)
  clear hb
  have S1 := Lib.hid ho.gats
  clear ho
  go_wp2_with fail
  refine (HIM.out _ _ S1.out).mono ?_
  rintro e W13 ⟨t0, rfl, ht0, hb⟩
  replace B := Lib.hid (B.out.trans (hb.mono B.out.size))
  replace A0 := Lib.hid (A0.out.on hb)
  replace X := Lib.hid (X.out.trans (hb.mono X.out.size))
  replace A1 := Lib.hid (A1.out.on hb)
  replace D0 := Lib.hid (D0.out.below hb)
  replace S1 := Lib.hid (S1.out.below hb)
  clear hb
  clear S1
  obtain ⟨_, aw, cw, rfl, _⟩ := id ht0
  obtain ⟨b2, hb2⟩ : ∃ n, n = W13.heap.size := ⟨_, rfl⟩
  obtain ⟨U13, hU13⟩ : ∃ U, U = W13.alloc (Obj.cells #[.slice aw r0.length cw, .int .i64 x, .int .i64 y, .int .i64 z] 29) := ⟨_, rfl⟩
  have A2 := Lib.hid (show GBx U13 b2 (.slice aw r0.length cw) x y z by rw [hU13, hb2]; exact GBx.new W13 _ x y z _)
  have hb : Below W13.heap.size W13 U13 := by rw [hU13]; exact (by repeat (first | exact Below.refl _ _ | apply Below.drew | apply below_drewN | (refine Below.alloc ?_ (by first | omega | (simp <;> omega)) _)))
  have HU13 := Lib.hid hU13
  have Hb2 := Lib.hid hb2
  clear hU13 hb2
  have T0 := Lib.hid (ht0.gats.below hb)
  clear ht0
  replace B := Lib.hid (B.out.trans (hb.mono B.out.size))
  replace A0 := Lib.hid (A0.out.on hb)
  replace X := Lib.hid (X.out.trans (hb.mono X.out.size))
  replace A1 := Lib.hid (A1.out.on hb)
  replace D0 := Lib.hid (D0.out.below hb)
  clear hb
  go_upto_region 25 with fail
  rw [← HU13.out, ← Hb2.out]
  clear HU13 Hb2
  obtain ⟨p0, p1, p2, p3⟩ := A2.out.1
  obtain ⟨q0, q1, q2, q3⟩ := A0.out.1
  go_wp2_with fail
  refine (eqGr (.slice aw r0.length cw) (.slice av r0.length cv) r0 x y z _ T0.out (V0.out.below X.out)).mono ?_
  rintro e W14 ⟨rfl, hb⟩
  clear p0 p1 p2 p3 q0 q1 q2 q3
  replace B := Lib.hid (B.out.trans (hb.mono B.out.size))
  replace A0 := Lib.hid (A0.out.on hb)
  replace X := Lib.hid (X.out.trans (hb.mono X.out.size))
  replace A1 := Lib.hid (A1.out.on hb)
  replace D0 := Lib.hid (D0.out.below hb)
  replace A2 := Lib.hid (A2.out.on hb)
  replace T0 := Lib.hid (T0.out.below hb)
  clear hb
  obtain ⟨p0, p1, p2, p3⟩ := A1.out.1
  go_wp2_with fail
  refine (heldGrad (.slice ag r0.length cg) r0.length x y z _ 1 _ D0.out (by omega) (by omega)).mono ?_
  rintro e W15 ⟨rfl, hb⟩
  clear p0 p1 p2 p3
  replace B := Lib.hid (B.out.trans (hb.mono B.out.size))
  clear hb
  go_wp2_with fail
  go_ret
  exact ⟨rfl, B.out⟩
set_option maxHeartbeats 1000000 in
theorem xGradientOf_long0 (a0 : Int) (a1 : Option Addr) (n1 c1 : Nat) (w : World) (h1 : 1048576 < n1) (h2 : n1 ≤ 9223372036854775807) :
    Calls Try.prog 7 #[.int .i64 a0, .slice a1 n1 c1] w fun e w' => e = .returned (.bool true) ∧ Below w.heap.size w w' := by
  have HS1 := Lib.hid (fun w => szC_over a1 n1 c1 (1048576) w (by omega) (by omega) (by omega) (by omega))
  clear h1 h2
  go_enter Try.func7, Try.ntmps7
  go_wp2_with fail
  refine (HS1.out _).mono ?_
  rintro e w' ⟨rfl, rfl⟩
  go_wp2_with fail
  go_ret
  exact ⟨rfl, Below.refl _ _⟩
theorem xGradientOf (p : Int) (a : Option Addr) (len cap : Nat) (L : List Gt) (w : World) (h : RowG w a len L) :
    Calls Try.prog 7 #[.int .i64 p, .slice a len cap] w fun e w' => e = .returned (.bool true) ∧ Below w.heap.size w w' := by
  by_cases hl : len ≤ 1048576
  · have e1 := h.1
    subst e1
    exact xGradientOf_in p a L cap (grC p L) (grPl p L 0) (grPl p L 1) (grPl p L 2) (grB2 p L) w (h.gats hl) hl (fun f w hf => sGradientOf p f L w hf) (fun f w hf => iGradientOf p f L w hf)
  · exact xGradientOf_long0 p a len cap w (by omega) h.2.1
end Go.Proofs.Ytfpjflghgmcgbaa
