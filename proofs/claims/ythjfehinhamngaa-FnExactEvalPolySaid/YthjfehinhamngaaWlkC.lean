/-
  The walks of the exact laws of PartPoly and EvalPoly. Conditions: none but that the slice reads as a list of terms.
-/
import Derived.Test.YthjfehinhamngaaWlkB
import Derived.Test.YthjfehinhamngaaPart
import Derived.Test.YthjfehinhamngaaEvB

namespace Go.Proofs.Ythjfehinhamngaa
open Go.RowKit
theorem xPartPoly (p : Int) (a : Option Addr) (len cap : Nat) (L : List Trm) (n : Int) (w : World) (h : RowT w a len L) :
    Calls Try.prog 12 #[.int .i64 p, .slice a len cap, .int .i64 n] w fun e w' => e = .returned (.bool true) ∧ Below w.heap.size w w' := by
  by_cases hl : len ≤ 1048576
  · have := h.1
    subst this
    exact xPartPoly_in p a L cap n (partL p L n) (isP p && validB p L) w hl (h.trms hl) (fun f w hf => sPartPoly p f L n w hf) (fun f w hf => iPartPoly p f L n w hf)
  · exact xPartPoly_long p a len cap n w (by omega) h.2.1
theorem toA3b (a b c : Int) (w : World) :
    Calls Try.prog 34 #[.agg #[.int .i64 a, .int .i64 b, .int .i64 c]] w fun e w' => e = .returned (.agg #[.int .i64 a, .int .i64 b, .int .i64 c]) ∧ Below w.heap.size w w' :=
  (toA3 a b c w).mono fun e w' ⟨h1, h2⟩ => ⟨h1, by subst h2; unfold three; exact Below.alloc (Below.alloc (Below.alloc (Below.refl _ _) (by omega) _) (by simp) _) (by simp; omega) _⟩
theorem keepPt {W w1 : World} {b : Nat} {x y z : Int} (hb : Below W.heap.size W w1) (h1 : b < W.heap.size) (h : W.cell? ⟨b, 0, none⟩ = some (.int .i64 x) ∧ W.cell? ⟨b, 1, none⟩ = some (.int .i64 y) ∧ W.cell? ⟨b, 2, none⟩ = some (.int .i64 z)) :
    w1.cell? ⟨b, 0, none⟩ = some (.int .i64 x) ∧ w1.cell? ⟨b, 1, none⟩ = some (.int .i64 y) ∧ w1.cell? ⟨b, 2, none⟩ = some (.int .i64 z) := PtAt.below h hb h1
set_option maxRecDepth 100000 in
set_option maxHeartbeats 4000000 in
theorem xEvalPoly_in (p : Int) (a : Option Addr) (L : List Trm) (cap : Nat) (x y z : Int) (w : World) (hl : L.length ≤ 1048576) (h : Trms w (.slice a L.length cap) L) :
    Calls Try.prog 8 #[.int .i64 p, .slice a L.length cap, .agg #[.int .i64 x, .int .i64 y, .int .i64 z]] w fun e w' => e = .returned (.bool true) ∧ Below w.heap.size w w' := by
  have hlp : (L.length : Int) ≤ 1048576 := by omega
  have hm : (1048576 : Int) - L.length ≥ 0 := by omega
  have HT := Lib.hid h
  clear h
  have HS := Lib.hid (fun w => szP_ok a L.length cap w hl)
  go_enter Try.func8, Try.ntmps8
  go_wp2_with (go_at_call 14; refine (HS.out _).mono ?_; rintro e w' ⟨rfl, rfl⟩)
  obtain ⟨W, hW⟩ : ∃ W, W = w.alloc (Obj.cells #[.int .i64 x, .int .i64 y, .int .i64 z] 40) := ⟨_, rfl⟩
  have hPt : PtAt W w.heap.size x y z := by rw [hW]; refine ⟨?_, ?_, ?_⟩ <;> simp [go_sem]
  have hsW : w.heap.size < W.heap.size := by rw [hW]; simp
  have HW := Lib.hid (show Below w.heap.size w W by rw [hW]; exact Below.alloc (Below.refl _ _) (Nat.le_refl _) _)
  rw [← hW]
  clear hW
  have HTW := Lib.hid (fun W' (h : Below W.heap.size W W') => HT.out.below (HW.out.trans (h.mono HW.out.size)))
  have HPW := Lib.hid hPt
  obtain ⟨c0, c1, c2⟩ := hPt
  go_region_held3 (fun w' => w'.cell? ⟨w.heap.size, 0, none⟩ = some (.int .i64 x) ∧ w'.cell? ⟨w.heap.size, 1, none⟩ = some (.int .i64 y) ∧ w'.cell? ⟨w.heap.size, 2, none⟩ = some (.int .i64 z)) (first | go_keep | exact keepPt hb1 (by simpa using hsW) (by assumption) | exact keepPt hb2 (by have := hb1.size; simp at this ⊢; omega) (by assumption) | exact keepPt hb3 (by have := hb1.size; have := hb2.size; simp at *; omega) (by assumption))
    (first
      | (go_at_call 16; refine (toP _ L _ (HTW.out _ (by repeat (first | exact Below.refl _ _ | apply Below.drew | apply below_drewN)))).mono ?_; rintro e w1 ⟨v1, rfl, ho1, hb1⟩)
      | (go_at_call 34; refine (toA3b x y z _).mono ?_; rintro e w2 ⟨rfl, hb2⟩)
      | (go_at_call 33; refine (sEvalPoly p x y z v1 L _ (ho1.trms.below (by repeat (first | exact hb2 | exact Below.trans (below_drewN (Below.refl _ _) _) hb2 | apply Below.drew | apply below_drewN)))).mono ?_; rintro e w3 ⟨rfl, hb3⟩))
  have P3 := Lib.hid (show PtAt w3 w.heap.size x y z from by
    have e0 : Below W.heap.size W W.drew := by repeat (first | exact Below.refl _ _ | apply Below.drew | apply below_drewN)
    exact (((HPW.out.below e0 hsW).below hb1 (by simpa using hsW)).below hb2 (by have := hb1.size; simp at this; omega)).below hb3 (by have q1 := hb1.size; have q2 := hb2.size; simp at q1; omega))
  have B3 := Lib.hid (show Below w.heap.size w w3 by
    have q1 := HW.out.size
    have q2 := hb1.size
    have q3 := hb2.size
    have e1 : Below w.heap.size w w1 := (by repeat (first | exact HW.out | apply Below.drew | apply below_drewN) : Below w.heap.size w W.drew).trans (hb1.mono (by simp; omega))
    exact (e1.trans (hb2.mono e1.size)).trans (hb3.mono (by have := e1.size; omega)))
  have s3 : w.heap.size < w3.heap.size := by have q2 := hb1.size; have q3 := hb2.size; have q4 := hb3.size; simp at q2; omega
  clear hb1 hb2 hb3 ho1
  go_wp2_with fail
  refine (toP _ L _ (HT.out.below B3.out)).mono ?_
  rintro e W4 ⟨v4, rfl, ho4, hb4⟩
  have T4 := Lib.hid ho4.trms
  have B4 := Lib.hid (B3.out.trans (hb4.mono B3.out.size))
  have hP4 := P3.out.below hb4 s3
  obtain ⟨d0, d1, d2⟩ := hP4
  clear ho4 hb4
  go_wp2_with fail
  refine (toA3b x y z _).mono ?_
  rintro e W5 ⟨rfl, hb5⟩
  have B5 := Lib.hid (B4.out.trans (hb5.mono B4.out.size))
  have T5 := Lib.hid (T4.out.below hb5)
  clear hb5
  go_wp2_with fail
  refine (iEvalPoly p x y z v4 L _ T5.out).mono ?_
  rintro e W6 ⟨rfl, hb6⟩
  have B6 := Lib.hid (B5.out.trans (hb6.mono B5.out.size))
  have T6 := Lib.hid (T5.out.below hb6)
  clear hb6
  go_wp2_with fail
  refine (toP _ L _ (HT.out.below B6.out)).mono ?_
  rintro e W7 ⟨v7, rfl, ho7, hb7⟩
  have T7 := Lib.hid ho7.trms
  have T8 := Lib.hid (T6.out.below hb7)
  have B7 := Lib.hid (B6.out.trans (hb7.mono B6.out.size))
  clear ho7 hb7
  go_wp2_with fail
  refine (eqP v4 v7 L _ T8.out T7.out).mono ?_
  rintro e W8 ⟨rfl, hb8⟩
  have B8 := Lib.hid (B7.out.trans (hb8.mono B7.out.size))
  clear hb8
  go_wp2_with fail
  go_ret
  exact ⟨rfl, B8.out⟩
set_option maxHeartbeats 1000000 in
theorem xEvalPoly_long (p : Int) (a : Option Addr) (n cap : Nat) (x y z : Int) (w : World) (h1 : 1048576 < n) (h2 : n ≤ 9223372036854775807) :
    Calls Try.prog 8 #[.int .i64 p, .slice a n cap, .agg #[.int .i64 x, .int .i64 y, .int .i64 z]] w fun e w' => e = .returned (.bool true) ∧ Below w.heap.size w w' := by
  have HS := Lib.hid (fun w => szP_long a n cap w h1 h2)
  clear h1 h2
  go_enter Try.func8, Try.ntmps8
  go_wp2_with (go_at_call 14; refine (HS.out _).mono ?_; rintro e w' ⟨rfl, rfl⟩)
  go_ret
  exact ⟨rfl, by repeat (first | exact Below.refl _ _ | (refine Below.alloc ?_ (by first | omega | (simp; omega)) _))⟩
theorem xEvalPoly (p : Int) (a : Option Addr) (len cap : Nat) (L : List Trm) (x y z : Int) (w : World) (h : RowT w a len L) :
    Calls Try.prog 8 #[.int .i64 p, .slice a len cap, .agg #[.int .i64 x, .int .i64 y, .int .i64 z]] w fun e w' => e = .returned (.bool true) ∧ Below w.heap.size w w' := by
  by_cases hl : len ≤ 1048576
  · have := h.1
    subst this
    exact xEvalPoly_in p a L cap x y z w hl (h.trms hl)
  · exact xEvalPoly_long p a len cap x y z w (by omega) h.2.1
end Go.Proofs.Ythjfehinhamngaa
