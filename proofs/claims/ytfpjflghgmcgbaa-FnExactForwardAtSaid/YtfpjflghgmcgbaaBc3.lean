/-
  The walk of the exact law of ForwardAt. Conditions: none but that the slice reads as a list of gates.
-/
import Derived.Test.YtfpjflghgmcgbaaBc2
import Derived.Test.YtfpjflghgmcgbaaBa9
import Derived.Test.YtfpjflghgmcgbaaBa5
namespace Go.Proofs.Ytfpjflghgmcgbaa
open Go.RowKit
set_option maxRecDepth 100000 in
set_option maxHeartbeats 8000000 in
theorem xForwardAt_in (a0 : Int) (a1 : Option Addr) (L1 : List Gt) (c1 : Nat) (v x y z : Int) (w : World) (h1 : Gats w (.slice a1 L1.length c1) L1) (hl : L1.length ≤ 1048576) :
    Calls Try.prog 12 #[.int .i64 a0, .slice a1 L1.length c1, .int .i64 v, .agg #[.int .i64 x, .int .i64 y, .int .i64 z]] w fun e w' => e = .returned (.bool true) ∧ Below w.heap.size w w' := by
  have m1 : (1048576 : Int) - L1.length ≥ 0 := by omega
  have HS1 := Lib.hid (fun w => szC_at a1 L1.length c1 (1048576) w (by omega) (by omega) (by omega))
  have Q1 := Lib.hid h1
  have n1 : (L1.length : Int) ≤ 1048576 := by omega
  obtain ⟨r0, hr0⟩ : ∃ r, r = faV a0 L1 v x y z := ⟨_, rfl⟩
  obtain ⟨r1, hr1⟩ : ∃ r, r = faS a0 L1 v x y z := ⟨_, rfl⟩
  have HSP := Lib.hid (fun f w h => hr1 ▸ hr0 ▸ sForwardAt a0 v x y z f L1 w h)
  have HIM := Lib.hid (fun f w h => hr1 ▸ hr0 ▸ iForwardAt a0 v x y z f L1 w h)
  have b0 : (r0 != r0) = false := by simp
  have b1 : (r1 != r1) = false := by simp
  clear h1 hr0 hr1
  go_enter Try.func12, Try.ntmps12
  go_wp2_with fail
  refine (HS1.out _).mono ?_
  rintro e w' ⟨rfl, rfl⟩
  obtain ⟨Wb, hWb⟩ : ∃ W, W = w.alloc (Obj.cells #[.int .i64 x, .int .i64 y, .int .i64 z] 27) := ⟨_, rfl⟩
  have HPt := Lib.hid (show PtAt Wb w.heap.size x y z by rw [hWb]; refine ⟨?_, ?_, ?_⟩ <;> simp [go_sem])
  have hPl : w.heap.size < Wb.heap.size := by rw [hWb]; simp
  have HWb := Lib.hid (show Below w.heap.size w Wb by rw [hWb]; exact Below.alloc (Below.refl _ _) (Nat.le_refl _) _)
  have Q1 := Lib.hid (Q1.out.below HWb.out)
  have B := Lib.hid (Below.refl Wb.heap.size Wb)
  go_wp2_with fail
  rw [← hWb]
  clear hWb
  obtain ⟨q0, q1, q2⟩ := HPt.out.below B.out hPl
  have hlt : w.heap.size < Wb.heap.size := by have := B.out.size; omega
  have HTW := Lib.hid (fun W' (h : Below Wb.heap.size Wb W') => Q1.out.below (B.out.trans (h.mono B.out.size)))
  go_region_held3 (fun w' => w'.cell? ⟨w.heap.size, 0, none⟩ = some (.int .i64 x) ∧ w'.cell? ⟨w.heap.size, 1, none⟩ = some (.int .i64 y) ∧ w'.cell? ⟨w.heap.size, 2, none⟩ = some (.int .i64 z)) (first | go_keep | exact keepPt hb1 (by simpa using hlt) (by assumption) | exact keepPt hb2 (by have := hb1.size; simp at this ⊢; omega) (by assumption) | exact keepPt hb3 (by have := hb1.size; have := hb2.size; simp at *; omega) (by assumption))
    (first
      | (go_at_call 41; refine (toC _ L1 _ (HTW.out _ (by repeat (first | exact Below.refl _ _ | apply Below.drew | apply below_drewN)))).mono ?_; rintro e w1 ⟨v1, rfl, ho1, hb1⟩)
      | (go_at_call 52; refine (toA3b x y z _).mono ?_; rintro e w2 ⟨rfl, hb2⟩)
      | (go_at_call 25; refine (HSP.out v1 _ (ho1.gats.below (by repeat (first | exact hb2 | exact Below.trans (below_drewN (Below.refl _ _) _) hb2 | apply Below.drew | apply below_drewN)))).mono ?_; rintro e W2 ⟨rfl, hb3⟩))
  have hb : Below Wb.heap.size Wb W2 := by
    have q2 := hb1.size
    have q3 := hb2.size
    have e1 : Below Wb.heap.size Wb w1 := (by repeat (first | exact Below.refl _ _ | apply Below.drew | apply below_drewN) : Below Wb.heap.size Wb Wb.drew).trans (hb1.mono (by simp))
    exact (e1.trans (hb2.mono e1.size)).trans (hb3.mono (by have := e1.size; omega))
  clear hb1 hb2 hb3 ho1 q0 q1 q2 HTW
  replace B := Lib.hid (B.out.trans (hb.mono B.out.size))
  clear hb
  go_wp2_with fail
  refine (toC _ L1 _ (Q1.out.below B.out)).mono ?_
  rintro e W3 ⟨x1, rfl, ho, hb⟩
  replace B := Lib.hid (B.out.trans (hb.mono B.out.size))
  have O1 := Lib.hid ho.gats
  obtain ⟨q0, q1, q2⟩ := HPt.out.below B.out hPl
  clear hb ho
  go_wp2_with fail
  refine (toA3b x y z _).mono ?_
  rintro e W3b ⟨rfl, hb⟩
  replace B := Lib.hid (B.out.trans (hb.mono B.out.size))
  replace O1 := Lib.hid (O1.out.below hb)
  clear hb q0 q1 q2
  go_wp2_with fail
  refine (HIM.out _ _ O1.out).mono ?_
  rintro e W4 ⟨rfl, hb⟩
  replace B := Lib.hid (B.out.trans (hb.mono B.out.size))
  replace O1 := Lib.hid (O1.out.below hb)
  clear hb
  go_wp2_with fail
  refine (toC _ L1 _ (Q1.out.below B.out)).mono ?_
  rintro e W6 ⟨y1, rfl, ho, hb⟩
  replace B := Lib.hid (B.out.trans (hb.mono B.out.size))
  replace O1 := Lib.hid (O1.out.below hb)
  have S1 := Lib.hid ho.gats
  clear ho hb
  go_wp2_with fail
  refine (eqC x1 y1 L1 _ O1.out S1.out).mono ?_
  rintro e W7 ⟨rfl, hb⟩
  replace B := Lib.hid (B.out.trans (hb.mono B.out.size))
  clear hb
  go_wp2_with fail
  go_ret
  exact ⟨rfl, HWb.out.trans (B.out.mono HWb.out.size)⟩
set_option maxRecDepth 100000 in
set_option maxHeartbeats 1000000 in
theorem xForwardAt_long (a0 : Int) (a1 : Option Addr) (n1 c1 : Nat) (v x y z : Int) (w : World) (h1 : 1048576 < n1) (h2 : n1 ≤ 9223372036854775807) :
    Calls Try.prog 12 #[.int .i64 a0, .slice a1 n1 c1, .int .i64 v, .agg #[.int .i64 x, .int .i64 y, .int .i64 z]] w fun e w' => e = .returned (.bool true) ∧ Below w.heap.size w w' := by
  have HS1 := Lib.hid (fun w => szC_over a1 n1 c1 (1048576) w (by omega) (by omega) (by omega) (by omega))
  clear h1 h2
  go_enter Try.func12, Try.ntmps12
  go_wp2_with fail
  refine (HS1.out _).mono ?_
  rintro e w' ⟨rfl, rfl⟩
  go_wp2_with fail
  go_ret
  exact ⟨rfl, by repeat (first | exact Below.refl _ _ | (refine Below.alloc ?_ (by first | omega | (simp; omega)) _))⟩
theorem xForwardAt (p : Int) (a : Option Addr) (len cap : Nat) (L : List Gt) (v x y z : Int) (w : World) (h : RowG w a len L) :
    Calls Try.prog 12 #[.int .i64 p, .slice a len cap, .int .i64 v, .agg #[.int .i64 x, .int .i64 y, .int .i64 z]] w fun e w' => e = .returned (.bool true) ∧ Below w.heap.size w w' := by
  by_cases hl : len ≤ 1048576
  · have := h.1
    subst this
    exact xForwardAt_in p a L cap v x y z w (h.gats hl) hl
  · exact xForwardAt_long p a len cap v x y z w (by omega) h.2.1
end Go.Proofs.Ytfpjflghgmcgbaa
