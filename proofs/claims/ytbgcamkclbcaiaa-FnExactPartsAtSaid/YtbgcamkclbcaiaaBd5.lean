/-
  The walk of the exact law of PartsAt. Conditions: none but that the slice reads as a list of gates.
-/
import Derived.Test.YtbgcamkclbcaiaaBd4
import Derived.Test.YtbgcamkclbcaiaaBc9
import Derived.Test.YtbgcamkclbcaiaaBc4
import Derived.Test.YtbgcamkclbcaiaaBc5
namespace Go.Proofs.Ytbgcamkclbcaiaa
open Go.RowKit
set_option maxRecDepth 100000 in
set_option maxHeartbeats 8000000 in
theorem xPartsAt_in (a0 : Int) (a1 : Option Addr) (L1 : List Gt) (c1 : Nat) (a2 : Int) (x y z : Int) (r0 : List Int) (w : World) (h1 : Gats w (.slice a1 L1.length c1) L1) (hl : L1.length ≤ 1048576)
    (hS : ∀ f1, ∀ w, Gats w f1 L1 → Calls Try.prog 38 #[.int .i64 a0, f1, .int .i64 a2, .agg #[.int .i64 x, .int .i64 y, .int .i64 z]] w fun e w' => ∃ u0, e = .returned (u0) ∧ OwnInts w' w.heap.size u0 r0 ∧ Below w.heap.size w w')
    (hI : ∀ f1, ∀ w, Gats w f1 L1 → Calls Try.prog 39 #[.int .i64 a0, f1, .int .i64 a2, .agg #[.int .i64 x, .int .i64 y, .int .i64 z]] w fun e w' => ∃ u0, e = .returned (u0) ∧ OwnInts w' w.heap.size u0 r0 ∧ Below w.heap.size w w') :
    Calls Try.prog 8 #[.int .i64 a0, .slice a1 L1.length c1, .int .i64 a2, .agg #[.int .i64 x, .int .i64 y, .int .i64 z]] w fun e w' => e = .returned (.bool true) ∧ Below w.heap.size w w' := by
  have m1 : (1048576 : Int) - L1.length ≥ 0 := by omega
  have HS1 := Lib.hid (fun w => szC_at a1 L1.length c1 (1048576) w (by omega) (by omega) (by omega))
  have Q1 := Lib.hid h1
  have n1 : (L1.length : Int) ≤ 1048576 := by omega
  clear h1
  have HSP := Lib.hid hS
  have HIM := Lib.hid hI
  clear hS hI
  go_enter Try.func8, Try.ntmps8
  go_wp2_with fail
  refine (HS1.out _).mono ?_
  rintro e w' ⟨rfl, rfl⟩
  obtain ⟨Wb, hWb⟩ : ∃ W, W = w.alloc (Obj.cells #[.int .i64 x, .int .i64 y, .int .i64 z] 36) := ⟨_, rfl⟩
  have HPt := Lib.hid (show PtAt Wb w.heap.size x y z by rw [hWb]; refine ⟨?_, ?_, ?_⟩ <;> simp [go_sem])
  have hPl : w.heap.size < Wb.heap.size := by rw [hWb]; simp
  have HWb := Lib.hid (show Below w.heap.size w Wb by rw [hWb]; exact Below.alloc (Below.refl _ _) (Nat.le_refl _) _)
  have Q1 := Lib.hid (Q1.out.below HWb.out)
  have B := Lib.hid (Below.refl Wb.heap.size Wb)
  go_wp2_with fail
  rw [← hWb]
  clear hWb
  obtain ⟨q0, q1, q2⟩ := HPt.out.below B.out hPl
  have hlt : w.heap.size < Wb.heap.size := by have := B.out.size; omega
  have HTW := Lib.hid (fun W' (h : Below Wb.heap.size Wb W') => Q1.out.below (B.out.trans (h.mono B.out.size)))
  go_region_held3 (fun w' => w'.cell? ⟨w.heap.size, 0, none⟩ = some (.int .i64 x) ∧ w'.cell? ⟨w.heap.size, 1, none⟩ = some (.int .i64 y) ∧ w'.cell? ⟨w.heap.size, 2, none⟩ = some (.int .i64 z)) (first | go_keep | exact keepPt hb1 (by simpa using hlt) (by assumption) | exact keepPt hb2 (by have := hb1.size; simp at this ⊢; omega) (by assumption) | exact keepPt hb3 (by have := hb1.size; have := hb2.size; simp at *; omega) (by assumption))
    (first
      | (go_at_call 33; refine (toC _ L1 _ (HTW.out _ (by repeat (first | exact Below.refl _ _ | apply Below.drew | apply below_drewN)))).mono ?_; rintro e w1 ⟨v1, rfl, ho1, hb1⟩)
      | (go_at_call 29; refine (toA3b x y z _).mono ?_; rintro e w2 ⟨rfl, hb2⟩)
      | (go_at_call 38; refine (HSP.out v1 _ (ho1.gats.below (by repeat (first | exact hb2 | exact Below.trans (below_drewN (Below.refl _ _) _) hb2 | apply Below.drew | apply below_drewN)))).mono ?_; rintro e W2 ⟨v0, rfl, hv, hb3⟩))
  have hb : Below Wb.heap.size Wb W2 := by
    have q2 := hb1.size
    have q3 := hb2.size
    have e1 : Below Wb.heap.size Wb w1 := (by repeat (first | exact Below.refl _ _ | apply Below.drew | apply below_drewN) : Below Wb.heap.size Wb Wb.drew).trans (hb1.mono (by simp))
    exact (e1.trans (hb2.mono e1.size)).trans (hb3.mono (by have := e1.size; omega))
  clear hb1 hb2 hb3 ho1 q0 q1 q2 HTW
  replace B := Lib.hid (B.out.trans (hb.mono B.out.size))
  have Z2 := Lib.hid hb.size
  have hv0 := hv
  clear hv hb
  have V0 := Lib.hid hv0.ints
  have z0 : (r0.length : Int) ≤ 281474976710656 := by have := hv0.1; omega
  clear hv0
  have X := Lib.hid (Below.refl W2.heap.size W2)
  go_wp2_with fail
  refine (toC _ L1 _ (Q1.out.below B.out)).mono ?_
  rintro e W3 ⟨x1, rfl, ho, hb⟩
  have Z3 := Lib.hid hb.size
  replace B := Lib.hid (B.out.trans (hb.mono B.out.size))
  replace X := Lib.hid (X.out.trans (hb.mono X.out.size))
  clear hb
  have O1 := Lib.hid ho
  clear ho
  have Y1 := Lib.hid (Below.refl W3.heap.size W3)
  obtain ⟨q0, q1, q2⟩ := HPt.out.below B.out hPl
  go_wp2_with fail
  refine (toA3b x y z _).mono ?_
  rintro e W3b ⟨rfl, hb⟩
  have Z3b := Lib.hid hb.size
  replace B := Lib.hid (B.out.trans (hb.mono B.out.size))
  replace X := Lib.hid (X.out.trans (hb.mono X.out.size))
  replace Y1 := Lib.hid (Y1.out.trans (hb.mono Y1.out.size))
  clear hb q0 q1 q2
  go_wp2_with fail
  refine (HIM.out _ _ (O1.out.gats.below Y1.out)).mono ?_
  rintro e W4 ⟨g0, rfl, hg0, hb⟩
  have P1 := Lib.hid (show Wb.heap.size ≤ W2.heap.size ∧ W2.heap.size ≤ W2.heap.size ∧ W3.heap.size ≤ W3b.heap.size by have := Z2.out; have := Z3.out; have := Z3b.out; omega)
  have PG := Lib.hid (show Wb.heap.size ≤ W3b.heap.size ∧ W2.heap.size ≤ W3b.heap.size by have := Z2.out; have := Z3.out; have := Z3b.out; omega)
  replace B := Lib.hid (B.out.trans (hb.mono B.out.size))
  replace X := Lib.hid (X.out.trans (hb.mono X.out.size))
  replace Y1 := Lib.hid (Y1.out.trans (hb.mono Y1.out.size))
  clear hb
  have G0 := Lib.hid hg0
  clear hg0
  go_wp2_with fail
  refine (eqIS g0 v0 r0 _ G0.out.ints (V0.out.below X.out)).mono ?_
  rintro e W5 ⟨rfl, hb⟩
  replace B := Lib.hid (B.out.trans (hb.mono B.out.size))
  replace X := Lib.hid (X.out.trans (hb.mono X.out.size))
  replace Y1 := Lib.hid (Y1.out.trans (hb.mono Y1.out.size))
  replace G0 := Lib.hid (G0.out.below hb)
  clear hb
  go_wp2_with fail
  refine (toC _ L1 _ (Q1.out.below B.out)).mono ?_
  rintro e W6 ⟨y1, rfl, ho, hb⟩
  replace B := Lib.hid (B.out.trans (hb.mono B.out.size))
  replace X := Lib.hid (X.out.trans (hb.mono X.out.size))
  replace Y1 := Lib.hid (Y1.out.trans (hb.mono Y1.out.size))
  replace G0 := Lib.hid (G0.out.below hb)
  clear hb
  have S1 := Lib.hid ho.gats
  clear ho
  go_wp2_with fail
  refine (eqC x1 y1 L1 _ (O1.out.gats.below Y1.out) S1.out).mono ?_
  rintro e W7 ⟨rfl, hb⟩
  clear S1
  replace B := Lib.hid (B.out.trans (hb.mono B.out.size))
  replace X := Lib.hid (X.out.trans (hb.mono X.out.size))
  replace Y1 := Lib.hid (Y1.out.trans (hb.mono Y1.out.size))
  replace G0 := Lib.hid (G0.out.below hb)
  clear hb
  go_wp2_with fail
  refine (markGsame x1 L1 _ (1) W3 _ O1.out (same_of Y1.out) (by omega) (by omega)).mono ?_
  rintro e W8 ⟨rfl, hb⟩
  replace B := Lib.hid (B.out.trans (hb.low.mono P1.out.1))
  replace X := Lib.hid (X.out.trans (hb.low.mono P1.out.2.1))
  replace G0 := Lib.hid (G0.out.betw' P1.out.2.2 hb)
  clear hb
  go_wp2_with fail
  refine (eqIS g0 v0 r0 _ G0.out.ints (V0.out.below X.out)).mono ?_
  rintro e W9 ⟨rfl, hb⟩
  replace B := Lib.hid (B.out.trans (hb.mono B.out.size))
  replace X := Lib.hid (X.out.trans (hb.mono X.out.size))
  replace G0 := Lib.hid (G0.out.below hb)
  clear hb
  go_wp2_with fail
  refine (markIown g0 r0 _ (1) _ G0.out (by omega) (by omega)).mono ?_
  rintro e W10 ⟨rfl, hh, hb, hs⟩
  replace B := Lib.hid (B.out.trans (hb.mono PG.out.1))
  replace X := Lib.hid (X.out.trans (hb.mono PG.out.2))
  have D0 := Lib.hid hh
  clear hh hb hs
  go_wp2_with fail
  refine (heldIown g0 r0.length _ 1 _ D0.out (by omega) (by omega)).mono ?_
  rintro e W11 ⟨rfl, rfl⟩
  go_wp2_with fail
  obtain ⟨q0, q1, q2⟩ := HPt.out.below B.out hPl
  have hlt : w.heap.size < W10.heap.size := by have := B.out.size; omega
  have HTW := Lib.hid (fun W' (h : Below W10.heap.size W10 W') => Q1.out.below (B.out.trans (h.mono B.out.size)))
  go_region_held3 (fun w' => w'.cell? ⟨w.heap.size, 0, none⟩ = some (.int .i64 x) ∧ w'.cell? ⟨w.heap.size, 1, none⟩ = some (.int .i64 y) ∧ w'.cell? ⟨w.heap.size, 2, none⟩ = some (.int .i64 z)) (first | go_keep | exact keepPt hb1 (by simpa using hlt) (by assumption) | exact keepPt hb2 (by have := hb1.size; simp at this ⊢; omega) (by assumption) | exact keepPt hb3 (by have := hb1.size; have := hb2.size; simp at *; omega) (by assumption))
    (first
      | (go_at_call 33; refine (toC _ L1 _ (HTW.out _ (by repeat (first | exact Below.refl _ _ | apply Below.drew | apply below_drewN)))).mono ?_; rintro e w1 ⟨v1, rfl, ho1, hb1⟩)
      | (go_at_call 29; refine (toA3b x y z _).mono ?_; rintro e w2 ⟨rfl, hb2⟩)
      | (go_at_call 39; refine (HIM.out v1 _ (ho1.gats.below (by repeat (first | exact hb2 | exact Below.trans (below_drewN (Below.refl _ _) _) hb2 | apply Below.drew | apply below_drewN)))).mono ?_; rintro e W13 ⟨t0, rfl, hv, hb3⟩))
  have hb : Below W10.heap.size W10 W13 := by
    have q2 := hb1.size
    have q3 := hb2.size
    have e1 : Below W10.heap.size W10 w1 := (by repeat (first | exact Below.refl _ _ | apply Below.drew | apply below_drewN) : Below W10.heap.size W10 W10.drew).trans (hb1.mono (by simp))
    exact (e1.trans (hb2.mono e1.size)).trans (hb3.mono (by have := e1.size; omega))
  clear hb1 hb2 hb3 ho1 q0 q1 q2 HTW
  replace B := Lib.hid (B.out.trans (hb.mono B.out.size))
  replace X := Lib.hid (X.out.trans (hb.mono X.out.size))
  replace D0 := Lib.hid (D0.out.below hb)
  have ht0 := hv
  clear hv hb
  have T0 := Lib.hid ht0.ints
  clear ht0
  go_wp2_with fail
  refine (eqIS t0 v0 r0 _ T0.out (V0.out.below X.out)).mono ?_
  rintro e W14 ⟨rfl, hb⟩
  replace B := Lib.hid (B.out.trans (hb.mono B.out.size))
  replace X := Lib.hid (X.out.trans (hb.mono X.out.size))
  replace D0 := Lib.hid (D0.out.below hb)
  replace T0 := Lib.hid (T0.out.below hb)
  clear hb
  go_wp2_with fail
  refine (heldIown g0 r0.length _ 1 _ D0.out (by omega) (by omega)).mono ?_
  rintro e W15 ⟨rfl, rfl⟩
  go_wp2_with fail
  go_ret
  exact ⟨rfl, HWb.out.trans (B.out.mono HWb.out.size)⟩
set_option maxHeartbeats 1000000 in
theorem xPartsAt_long0 (a0 : Int) (a1 : Option Addr) (n1 c1 : Nat) (a2 : Int) (x y z : Int) (w : World) (h1 : 1048576 < n1) (h2 : n1 ≤ 9223372036854775807) :
    Calls Try.prog 8 #[.int .i64 a0, .slice a1 n1 c1, .int .i64 a2, .agg #[.int .i64 x, .int .i64 y, .int .i64 z]] w fun e w' => e = .returned (.bool true) ∧ Below w.heap.size w w' := by
  have HS1 := Lib.hid (fun w => szC_over a1 n1 c1 (1048576) w (by omega) (by omega) (by omega) (by omega))
  clear h1 h2
  go_enter Try.func8, Try.ntmps8
  go_wp2_with fail
  refine (HS1.out _).mono ?_
  rintro e w' ⟨rfl, rfl⟩
  go_wp2_with fail
  go_ret
  exact ⟨rfl, by repeat (first | exact Below.refl _ _ | (refine Below.alloc ?_ (by first | omega | (simp; omega)) _))⟩

theorem xPartsAt (a0 : Int) (a1 : Option Addr) (len1 c1 : Nat) (L1 : List Gt) (a2 : Int) (x y z : Int) (w : World) (h1 : RowG w a1 len1 L1) :
    Calls Try.prog 8 #[.int .i64 a0, .slice a1 len1 c1, .int .i64 a2, .agg #[.int .i64 x, .int .i64 y, .int .i64 z]] w fun e w' => e = .returned (.bool true) ∧ Below w.heap.size w w' := by
  by_cases q1 : len1 ≤ 1048576
  · have e1 := h1.1
    subst e1
    exact xPartsAt_in a0 a1 L1 c1 a2 x y z (paV a0 a2 x y z L1) w (h1.gats (by omega)) (by omega) (fun f1 w k1 => sPartsAt a0 a2 x y z f1 L1 w k1) (fun f1 w k1 => iPartsAt a0 a2 x y z f1 L1 w k1)
  · exact xPartsAt_long0 a0 a1 len1 c1 a2 x y z w (by omega) h1.2.1
end Go.Proofs.Ytbgcamkclbcaiaa
