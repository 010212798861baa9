/-
  The walk of the exact law of SpreadSize. Conditions: none but that the slice reads as a list of gates.
-/
import Derived.Test.YtiahcaihmgnicaaLaws
import Derived.Test.YtiahcaihmgnicaaInG
import Derived.Test.YtiahcaihmgnicaaSpr
namespace Go.Proofs.Ytiahcaihmgnicaa
open Go.RowKit
set_option maxRecDepth 100000 in
set_option maxHeartbeats 8000000 in
theorem xSpreadSize_in (a0 : Int) (a1 : Option Addr) (L1 : List Gt) (c1 : Nat) (r0 : Int) (w : World) (h1 : Gats w (.slice a1 L1.length c1) L1) (hl : L1.length ≤ 1048576)
    (hS : ∀ f1, ∀ w, Gats w f1 L1 → Calls Try.prog 56 #[.int .i64 a0, f1] w fun e w' => e = .returned (.int .i64 r0) ∧ Below w.heap.size w w')
    (hI : ∀ f1, ∀ w, Gats w f1 L1 → Calls Try.prog 57 #[.int .i64 a0, f1] w fun e w' => e = .returned (.int .i64 r0) ∧ Below w.heap.size w w') :
    Calls Try.prog 15 #[.int .i64 a0, .slice a1 L1.length c1] w fun e w' => e = .returned (.bool true) ∧ Below w.heap.size w w' := by
  have m1 : (1048576 : Int) - L1.length ≥ 0 := by omega
  have HS1 := Lib.hid (fun w => szC_at a1 L1.length c1 (1048576) w (by omega) (by omega) (by omega))
  have Q1 := Lib.hid h1
  have n1 : (L1.length : Int) ≤ 1048576 := by omega
  clear h1
  have HSP := Lib.hid hS
  have HIM := Lib.hid hI
  clear hS hI
  have bb0 : (r0 != r0) = false := by simp
  go_enter Try.func15, Try.ntmps15
  go_wp2_with (go_at_call 34; refine (HS1.out _).mono ?_; rintro e w' ⟨rfl, rfl⟩)
  have B := Lib.hid (Below.refl w.heap.size w)
  skip
  refine (toC _ L1 _ (Q1.out.below B.out)).mono ?_
  rintro e W1 ⟨s1, rfl, ho, hb⟩
  replace B := Lib.hid (B.out.trans (hb.mono B.out.size))
  clear hb
  have S1 := Lib.hid ho.gats
  clear ho
  go_wp2_with fail
  refine (HSP.out _ _ S1.out).mono ?_
  rintro e W2 ⟨rfl, hb⟩
  replace B := Lib.hid (B.out.trans (hb.mono B.out.size))
  replace S1 := Lib.hid (S1.out.below hb)
  clear hb
  clear S1
  go_wp2_with fail
  refine (toC _ L1 _ (Q1.out.below B.out)).mono ?_
  rintro e W3 ⟨x1, rfl, ho, hb⟩
  replace B := Lib.hid (B.out.trans (hb.mono B.out.size))
  clear hb
  have O1 := Lib.hid ho
  clear ho
  have Y1 := Lib.hid (Below.refl W3.heap.size W3)
  go_wp2_with fail
  refine (HIM.out _ _ (O1.out.gats.below Y1.out)).mono ?_
  rintro e W4 ⟨rfl, hb⟩
  replace B := Lib.hid (B.out.trans (hb.mono B.out.size))
  replace Y1 := Lib.hid (Y1.out.trans (hb.mono Y1.out.size))
  clear hb
  go_wp2_with fail
  refine (toC _ L1 _ (Q1.out.below B.out)).mono ?_
  rintro e W5 ⟨y1, rfl, ho, hb⟩
  replace B := Lib.hid (B.out.trans (hb.mono B.out.size))
  replace Y1 := Lib.hid (Y1.out.trans (hb.mono Y1.out.size))
  clear hb
  have S1 := Lib.hid ho.gats
  clear ho
  go_wp2_with fail
  refine (eqC x1 y1 L1 _ (O1.out.gats.below Y1.out) S1.out).mono ?_
  rintro e W6 ⟨rfl, hb⟩
  clear S1
  replace B := Lib.hid (B.out.trans (hb.mono B.out.size))
  replace Y1 := Lib.hid (Y1.out.trans (hb.mono Y1.out.size))
  clear hb
  go_wp2_with fail
  go_ret
  exact ⟨rfl, B.out⟩
set_option maxHeartbeats 1000000 in
theorem xSpreadSize_long0 (a0 : Int) (a1 : Option Addr) (n1 c1 : Nat) (w : World) (h1 : 1048576 < n1) (h2 : n1 ≤ 9223372036854775807) :
    Calls Try.prog 15 #[.int .i64 a0, .slice a1 n1 c1] w fun e w' => e = .returned (.bool true) ∧ Below w.heap.size w w' := by
  have HS1 := Lib.hid (fun w => szC_over a1 n1 c1 (1048576) w (by omega) (by omega) (by omega) (by omega))
  clear h1 h2
  go_enter Try.func15, Try.ntmps15
  go_wp2_with (go_at_call 34; refine (HS1.out _).mono ?_; rintro e w' ⟨rfl, rfl⟩)
  go_ret
  exact ⟨rfl, Below.refl _ _⟩
theorem xSpreadSize (p : Int) (a : Option Addr) (len cap : Nat) (L : List Gt) (w : World) (h : RowG w a len L) :
    Calls Try.prog 15 #[.int .i64 p, .slice a len cap] w fun e w' => e = .returned (.bool true) ∧ Below w.heap.size w w' := by
  by_cases hl : len ≤ 1048576
  · have := h.1
    subst this
    exact xSpreadSize_in p a L cap (sprV p L) w (h.gats hl) hl (fun f w hf => sSpreadSize p f L w hf) (fun f w hf => iSpreadSize p f L w hf)
  · exact xSpreadSize_long0 p a len cap w (by omega) h.2.1
end Go.Proofs.Ytiahcaihmgnicaa
