/-
  The walks of the exact laws whose function hands back a polynomial and a truth value: one polynomial and one integer came in. Condition: both contracts give the same list and truth value.
-/
import Derived.Test.YtcbndfplfajoiaaWlkA
import Derived.Test.YtcbndfplfajoiaaTrms3
import Derived.Test.YtcbndfplfajoiaaRow
import Derived.Test.YtcbndfplfajoiaaLaws

namespace Go.Proofs.Ytcbndfplfajoiaa
open Go.RowKit
theorem OwnTrms.betw {B C : Nat} {w w' : World} {v : Value} {L : List Trm} (h : OwnTrms w C v L) (hb : Betw B C w w') : OwnTrms w' C v L := by
  obtain ⟨h1, a, cap, hv, h2⟩ := h
  refine ⟨h1, a, cap, hv, ?_⟩
  rcases h2 with h2 | ⟨g, off, ha, hB, hg, hc, hf⟩
  · exact .inl h2
  · have e := hb.block g (.inr hB)
    refine .inr ⟨g, off, ha, hB, by rw [hb.size]; exact hg, fun j hj => ?_, fun i hi => by rw [frozen_of_heap (p := ⟨g, off + i, none⟩) e]; exact hf i hi⟩
    obtain ⟨c0, c1, c2, c3⟩ := hc j hj
    exact ⟨by rw [cell_of_heap (p := ⟨g, off + j * 4, none⟩) e]; exact c0, by rw [cell_of_heap (p := ⟨g, off + j * 4 + 1, none⟩) e]; exact c1, by rw [cell_of_heap (p := ⟨g, off + j * 4 + 2, none⟩) e]; exact c2, by rw [cell_of_heap (p := ⟨g, off + j * 4 + 3, none⟩) e]; exact c3⟩
/-- the argument of a law is marked: what was made behind it stays -/
theorem markTbetw (v : Value) (L : List Trm) (B : Nat) (k : Int) (w3 w : World) (h : OwnTrms w3 B v L) (hw : Below w3.heap.size w3 w) (hk0 : 0 ≤ k) (hk1 : k ≤ 1000000000000) :
    Calls Try.prog 26 #[v, .int .i64 k] w fun e w' => e = .returned (.int .i64 (k + 4 * (L.length : Int))) ∧ Betw B w3.heap.size w w' := by
  obtain ⟨h1, a, cap, rfl, h2⟩ := h
  rcases h2 with rfl | ⟨g, off, rfl, hB, hg, hc, hf⟩
  · refine (markTnil a cap k w).mono ?_
    rintro e w' ⟨rfl, rfl⟩
    exact ⟨by simp, rfl, rfl, rfl, rfl, fun _ _ => rfl⟩
  · refine (markT g off L.length cap k w h1 hk0 hk1 (fun i hi => ?_) (fun i hi => by rw [hw.frozen (p := ⟨g, off + i, none⟩) hg]; exact hf i hi)).mono ?_
    · obtain ⟨t0, t1, t2, t3⟩ := (hc (i / 4) (by omega)).below hw hg
      have : i = i / 4 * 4 ∨ i = i / 4 * 4 + 1 ∨ i = i / 4 * 4 + 2 ∨ i = i / 4 * 4 + 3 := by omega
      rcases this with e | e | e | e
      · rw [e]; exact ⟨_, t0⟩
      · rw [e, ← Nat.add_assoc]; exact ⟨_, t1⟩
      · rw [e, ← Nat.add_assoc]; exact ⟨_, t2⟩
      · rw [e, ← Nat.add_assoc]; exact ⟨_, t3⟩
    · rintro e w' ⟨rfl, hM⟩
      exact ⟨rfl, hM.os, hM.tape, hM.output, hM.size, fun b hb => hM.far b (by omega)⟩
set_option maxRecDepth 100000 in
set_option maxHeartbeats 8000000 in
theorem xScalePoly_in (p : Int) (a : Option Addr) (L : List Trm) (cap : Nat) (n : Int) (R : List Trm) (b : Bool) (w : World) (hl : L.length ≤ 1048576) (h : Trms w (.slice a L.length cap) L)
    (hS : ∀ f w, Trms w f L → Calls Try.prog 34 #[.int .i64 p, f, .int .i64 n] w (GivesPB R b w))
    (hI : ∀ f w, Trms w f L → Calls Try.prog 35 #[.int .i64 p, f, .int .i64 n] w (GivesPB R b w)) :
    Calls Try.prog 6 #[.int .i64 p, .slice a L.length cap, .int .i64 n] w fun e w' => e = .returned (.bool true) ∧ Below w.heap.size w w' := by
  have hlp : (L.length : Int) ≤ 1048576 := by omega
  have hm : (1048576 : Int) - L.length ≥ 0 := by omega
  have HT := Lib.hid h
  have HSP := Lib.hid hS
  have HIM := Lib.hid hI
  clear h hS hI
  have hbb := bne_self2 b
  have HS := Lib.hid (fun w => szP_ok a L.length cap w hl)
  go_enter Try.func6, Try.ntmps6
  go_wp2_with (go_at_call 28; refine (HS.out _).mono ?_; rintro e w' ⟨rfl, rfl⟩)
  refine (toP _ L _ HT.out).mono ?_
  rintro e W1 ⟨v1, rfl, ho1, hb1⟩
  have T1 := Lib.hid ho1.trms
  have B1 := Lib.hid hb1
  clear ho1 hb1
  go_wp2_with fail
  refine (HSP.out _ _ T1.out).mono ?_
  rintro e W2 ⟨v2, rfl, ho2, hb2⟩
  have B2 := Lib.hid (B1.out.trans (hb2.mono B1.out.size))
  have T2 := Lib.hid ho2.trms
  have hrl : R.length ≤ 1048576 := ho2.1
  have hrp : (R.length : Int) ≤ 1048576 := by omega
  clear ho2 hb2 T1 B1
  go_wp2_with fail
  refine (toP _ L _ (HT.out.below B2.out)).mono ?_
  rintro e W3 ⟨v3, rfl, ho3, hb3⟩
  have O3 := Lib.hid ho3
  have B3 := Lib.hid (B2.out.trans (hb3.mono B2.out.size))
  have X3 := Lib.hid hb3
  clear ho3 hb3
  go_wp2_with fail
  refine (HIM.out _ _ O3.out.trms).mono ?_
  rintro e W4 ⟨v4, rfl, ho4, hb4⟩
  have O4 := Lib.hid ho4
  have B4 := Lib.hid (B3.out.trans (hb4.mono B3.out.size))
  have X4 := Lib.hid (X3.out.trans (hb4.mono X3.out.size))
  have Y4 := Lib.hid hb4
  clear ho4 hb4
  go_wp2_with fail
  refine (eqP v4 v2 R _ O4.out.trms (T2.out.below X4.out)).mono ?_
  rintro e W5 ⟨rfl, hb5⟩
  have B5 := Lib.hid (B4.out.trans (hb5.mono B4.out.size))
  have X5 := Lib.hid (X4.out.trans (hb5.mono X4.out.size))
  have Y5 := Lib.hid (Y4.out.trans (hb5.mono Y4.out.size))
  have O5 := Lib.hid (O4.out.below hb5)
  clear hb5
  go_wp2_with fail
  refine (toP _ L _ (HT.out.below B5.out)).mono ?_
  rintro e W6 ⟨v6, rfl, ho6, hb6⟩
  have B6 := Lib.hid (B5.out.trans (hb6.mono B5.out.size))
  have X6 := Lib.hid (X5.out.trans (hb6.mono X5.out.size))
  have Y6 := Lib.hid (Y5.out.trans (hb6.mono Y5.out.size))
  have O6 := Lib.hid (O5.out.below hb6)
  have T6 := Lib.hid ho6.trms
  clear hb6 ho6
  go_wp2_with fail
  refine (eqP v3 v6 L _ (O3.out.trms.below Y6.out) T6.out).mono ?_
  rintro e W7 ⟨rfl, hb7⟩
  have B7 := Lib.hid (B6.out.trans (hb7.mono B6.out.size))
  have X7 := Lib.hid (X6.out.trans (hb7.mono X6.out.size))
  have Y7 := Lib.hid (Y6.out.trans (hb7.mono Y6.out.size))
  have O7 := Lib.hid (O6.out.below hb7)
  clear hb7
  go_wp2_with fail
  refine (markTbetw v3 L _ 1 W3 _ O3.out Y7.out (by omega) (by omega)).mono ?_
  rintro e W8 ⟨rfl, hb8⟩
  have B8 := Lib.hid (B7.out.trans (hb8.low.mono B2.out.size))
  have X8 := Lib.hid (X7.out.trans hb8.low)
  have O8 := Lib.hid (O7.out.betw hb8)
  clear hb8
  go_wp2_with fail
  refine (eqP v4 v2 R _ O8.out.trms (T2.out.below X8.out)).mono ?_
  rintro e W9 ⟨rfl, hb9⟩
  have B9 := Lib.hid (B8.out.trans (hb9.mono B8.out.size))
  have X9 := Lib.hid (X8.out.trans (hb9.mono X8.out.size))
  have O9 := Lib.hid (O8.out.below hb9)
  clear hb9
  go_wp2_with fail
  refine (markTown v4 R _ 1 _ O9.out (by omega) (by omega)).mono ?_
  rintro e WA ⟨rfl, hh, hbA, hsA⟩
  have BA := Lib.hid (B9.out.trans (hbA.mono B3.out.size))
  have XA := Lib.hid (X9.out.trans (hbA.mono X3.out.size))
  have HA := Lib.hid hh
  clear hh hbA hsA
  go_wp2_with fail
  refine (heldTown v4 R.length _ 1 _ HA.out (by omega) (by omega)).mono ?_
  rintro e WB ⟨rfl, rfl⟩
  go_wp2_with fail
  refine (toP _ L _ (HT.out.below BA.out)).mono ?_
  rintro e WC ⟨vC, rfl, hoC, hbC⟩
  have BC := Lib.hid (BA.out.trans (hbC.mono BA.out.size))
  have XC := Lib.hid (XA.out.trans (hbC.mono XA.out.size))
  have HC := Lib.hid (HA.out.below hbC)
  have TC := Lib.hid hoC.trms
  clear hbC hoC
  go_wp2_with fail
  refine (HIM.out _ _ TC.out).mono ?_
  rintro e WD ⟨vD, rfl, hoD, hbD⟩
  have BD := Lib.hid (BC.out.trans (hbD.mono BC.out.size))
  have XD := Lib.hid (XC.out.trans (hbD.mono XC.out.size))
  have HD := Lib.hid (HC.out.below hbD)
  have TD := Lib.hid hoD.trms
  clear hbD hoD
  go_wp2_with fail
  refine (eqP vD v2 R _ TD.out (T2.out.below XD.out)).mono ?_
  rintro e WE ⟨rfl, hbE⟩
  have BE := Lib.hid (BD.out.trans (hbE.mono BD.out.size))
  have HE := Lib.hid (HD.out.below hbE)
  clear hbE
  go_wp2_with fail
  refine (heldTown v4 R.length _ 1 _ HE.out (by omega) (by omega)).mono ?_
  rintro e WF ⟨rfl, rfl⟩
  go_wp2_with fail
  go_ret
  exact ⟨rfl, BE.out⟩
set_option maxHeartbeats 1000000 in
theorem xScalePoly_long (p : Int) (a : Option Addr) (n cap : Nat) (m : Int) (w : World) (h1 : 1048576 < n) (h2 : n ≤ 9223372036854775807) :
    Calls Try.prog 6 #[.int .i64 p, .slice a n cap, .int .i64 m] w fun e w' => e = .returned (.bool true) ∧ Below w.heap.size w w' := by
  have HS := Lib.hid (fun w => szP_long a n cap w h1 h2)
  clear h1 h2
  go_enter Try.func6, Try.ntmps6
  go_wp2_with (go_at_call 28; refine (HS.out _).mono ?_; rintro e w' ⟨rfl, rfl⟩)
  go_ret
  exact ⟨rfl, Below.refl _ _⟩
set_option maxRecDepth 100000 in
set_option maxHeartbeats 8000000 in
theorem xDerivePoly_in (p : Int) (a : Option Addr) (L : List Trm) (cap : Nat) (n : Int) (R : List Trm) (b : Bool) (w : World) (hl : L.length ≤ 1048576) (h : Trms w (.slice a L.length cap) L)
    (hS : ∀ f w, Trms w f L → Calls Try.prog 36 #[.int .i64 p, f, .int .i64 n] w (GivesPB R b w))
    (hI : ∀ f w, Trms w f L → Calls Try.prog 37 #[.int .i64 p, f, .int .i64 n] w (GivesPB R b w)) :
    Calls Try.prog 7 #[.int .i64 p, .slice a L.length cap, .int .i64 n] w fun e w' => e = .returned (.bool true) ∧ Below w.heap.size w w' := by
  have hlp : (L.length : Int) ≤ 1048576 := by omega
  have hm : (1048576 : Int) - L.length ≥ 0 := by omega
  have HT := Lib.hid h
  have HSP := Lib.hid hS
  have HIM := Lib.hid hI
  clear h hS hI
  have hbb := bne_self2 b
  have HS := Lib.hid (fun w => szP_ok a L.length cap w hl)
  go_enter Try.func7, Try.ntmps7
  go_wp2_with (go_at_call 28; refine (HS.out _).mono ?_; rintro e w' ⟨rfl, rfl⟩)
  refine (toP _ L _ HT.out).mono ?_
  rintro e W1 ⟨v1, rfl, ho1, hb1⟩
  have T1 := Lib.hid ho1.trms
  have B1 := Lib.hid hb1
  clear ho1 hb1
  go_wp2_with fail
  refine (HSP.out _ _ T1.out).mono ?_
  rintro e W2 ⟨v2, rfl, ho2, hb2⟩
  have B2 := Lib.hid (B1.out.trans (hb2.mono B1.out.size))
  have T2 := Lib.hid ho2.trms
  have hrl : R.length ≤ 1048576 := ho2.1
  have hrp : (R.length : Int) ≤ 1048576 := by omega
  clear ho2 hb2 T1 B1
  go_wp2_with fail
  refine (toP _ L _ (HT.out.below B2.out)).mono ?_
  rintro e W3 ⟨v3, rfl, ho3, hb3⟩
  have O3 := Lib.hid ho3
  have B3 := Lib.hid (B2.out.trans (hb3.mono B2.out.size))
  have X3 := Lib.hid hb3
  clear ho3 hb3
  go_wp2_with fail
  refine (HIM.out _ _ O3.out.trms).mono ?_
  rintro e W4 ⟨v4, rfl, ho4, hb4⟩
  have O4 := Lib.hid ho4
  have B4 := Lib.hid (B3.out.trans (hb4.mono B3.out.size))
  have X4 := Lib.hid (X3.out.trans (hb4.mono X3.out.size))
  have Y4 := Lib.hid hb4
  clear ho4 hb4
  go_wp2_with fail
  refine (eqP v4 v2 R _ O4.out.trms (T2.out.below X4.out)).mono ?_
  rintro e W5 ⟨rfl, hb5⟩
  have B5 := Lib.hid (B4.out.trans (hb5.mono B4.out.size))
  have X5 := Lib.hid (X4.out.trans (hb5.mono X4.out.size))
  have Y5 := Lib.hid (Y4.out.trans (hb5.mono Y4.out.size))
  have O5 := Lib.hid (O4.out.below hb5)
  clear hb5
  go_wp2_with fail
  refine (toP _ L _ (HT.out.below B5.out)).mono ?_
  rintro e W6 ⟨v6, rfl, ho6, hb6⟩
  have B6 := Lib.hid (B5.out.trans (hb6.mono B5.out.size))
  have X6 := Lib.hid (X5.out.trans (hb6.mono X5.out.size))
  have Y6 := Lib.hid (Y5.out.trans (hb6.mono Y5.out.size))
  have O6 := Lib.hid (O5.out.below hb6)
  have T6 := Lib.hid ho6.trms
  clear hb6 ho6
  go_wp2_with fail
  refine (eqP v3 v6 L _ (O3.out.trms.below Y6.out) T6.out).mono ?_
  rintro e W7 ⟨rfl, hb7⟩
  have B7 := Lib.hid (B6.out.trans (hb7.mono B6.out.size))
  have X7 := Lib.hid (X6.out.trans (hb7.mono X6.out.size))
  have Y7 := Lib.hid (Y6.out.trans (hb7.mono Y6.out.size))
  have O7 := Lib.hid (O6.out.below hb7)
  clear hb7
  go_wp2_with fail
  refine (markTbetw v3 L _ 1 W3 _ O3.out Y7.out (by omega) (by omega)).mono ?_
  rintro e W8 ⟨rfl, hb8⟩
  have B8 := Lib.hid (B7.out.trans (hb8.low.mono B2.out.size))
  have X8 := Lib.hid (X7.out.trans hb8.low)
  have O8 := Lib.hid (O7.out.betw hb8)
  clear hb8
  go_wp2_with fail
  refine (eqP v4 v2 R _ O8.out.trms (T2.out.below X8.out)).mono ?_
  rintro e W9 ⟨rfl, hb9⟩
  have B9 := Lib.hid (B8.out.trans (hb9.mono B8.out.size))
  have X9 := Lib.hid (X8.out.trans (hb9.mono X8.out.size))
  have O9 := Lib.hid (O8.out.below hb9)
  clear hb9
  go_wp2_with fail
  refine (markTown v4 R _ 1 _ O9.out (by omega) (by omega)).mono ?_
  rintro e WA ⟨rfl, hh, hbA, hsA⟩
  have BA := Lib.hid (B9.out.trans (hbA.mono B3.out.size))
  have XA := Lib.hid (X9.out.trans (hbA.mono X3.out.size))
  have HA := Lib.hid hh
  clear hh hbA hsA
  go_wp2_with fail
  refine (heldTown v4 R.length _ 1 _ HA.out (by omega) (by omega)).mono ?_
  rintro e WB ⟨rfl, rfl⟩
  go_wp2_with fail
  refine (toP _ L _ (HT.out.below BA.out)).mono ?_
  rintro e WC ⟨vC, rfl, hoC, hbC⟩
  have BC := Lib.hid (BA.out.trans (hbC.mono BA.out.size))
  have XC := Lib.hid (XA.out.trans (hbC.mono XA.out.size))
  have HC := Lib.hid (HA.out.below hbC)
  have TC := Lib.hid hoC.trms
  clear hbC hoC
  go_wp2_with fail
  refine (HIM.out _ _ TC.out).mono ?_
  rintro e WD ⟨vD, rfl, hoD, hbD⟩
  have BD := Lib.hid (BC.out.trans (hbD.mono BC.out.size))
  have XD := Lib.hid (XC.out.trans (hbD.mono XC.out.size))
  have HD := Lib.hid (HC.out.below hbD)
  have TD := Lib.hid hoD.trms
  clear hbD hoD
  go_wp2_with fail
  refine (eqP vD v2 R _ TD.out (T2.out.below XD.out)).mono ?_
  rintro e WE ⟨rfl, hbE⟩
  have BE := Lib.hid (BD.out.trans (hbE.mono BD.out.size))
  have HE := Lib.hid (HD.out.below hbE)
  clear hbE
  go_wp2_with fail
  refine (heldTown v4 R.length _ 1 _ HE.out (by omega) (by omega)).mono ?_
  rintro e WF ⟨rfl, rfl⟩
  go_wp2_with fail
  go_ret
  exact ⟨rfl, BE.out⟩
set_option maxHeartbeats 1000000 in
theorem xDerivePoly_long (p : Int) (a : Option Addr) (n cap : Nat) (m : Int) (w : World) (h1 : 1048576 < n) (h2 : n ≤ 9223372036854775807) :
    Calls Try.prog 7 #[.int .i64 p, .slice a n cap, .int .i64 m] w fun e w' => e = .returned (.bool true) ∧ Below w.heap.size w w' := by
  have HS := Lib.hid (fun w => szP_long a n cap w h1 h2)
  clear h1 h2
  go_enter Try.func7, Try.ntmps7
  go_wp2_with (go_at_call 28; refine (HS.out _).mono ?_; rintro e w' ⟨rfl, rfl⟩)
  go_ret
  exact ⟨rfl, Below.refl _ _⟩
end Go.Proofs.Ytcbndfplfajoiaa
